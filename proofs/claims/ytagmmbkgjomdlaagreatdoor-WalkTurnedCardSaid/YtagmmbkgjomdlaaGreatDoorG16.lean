/-
  Several texts in one: HdMath, SpRow.
-/
import Derived.RowKit
import Derived.Laws.Bits128
import Derived.Laws.Bits64b
import Derived.Test.YtagmmbkgjomdlaaGreatDoorG01
import Derived.Laws.OwnMore
import Derived.Laws.Rows
import Derived.Maps.OwnIn
/-
  Headers as plain numbers: which may be, the word of one, the header of a word; and bits joined and cut.
-/
namespace Go.Proofs.YtagmmbkgjomdlaaGreatDoor.Hd
open Go.RowKit
set_option linter.unusedVariables false

/-- A header: tag, type, length, size. -/
structure Hd where
  tg : Int
  ty : Int
  ln : Int
  sz : Int
theorem Hd.eq {a b : Hd} (h1 : a.tg = b.tg) (h2 : a.ty = b.ty) (h3 : a.ln = b.ln) (h4 : a.sz = b.sz) : a = b := by
  cases a; cases b; subst h1; subst h2; subst h3; subst h4; rfl
theorem Hd.eq_iff (a b : Hd) : (a.tg = b.tg ∧ a.ty = b.ty ∧ a.ln = b.ln ∧ a.sz = b.sz) ↔ a = b :=
  ⟨fun h => Hd.eq h.1 h.2.1 h.2.2.1 h.2.2.2, fun h => by subst h; exact ⟨rfl, rfl, rfl, rfl⟩⟩
instance : DecidableEq Hd := fun a b => decidable_of_decidable_of_iff (Hd.eq_iff a b)
def Hd.zero : Hd := ⟨0, 0, 0, 0⟩
def Hd.cells (h : Hd) : List Value := [.int .u8 h.tg, .int .i64 h.ty, .int .i64 h.ln, .int .i64 h.sz]
def Hd.val (h : Hd) : Value := .agg #[.int .u8 h.tg, .int .i64 h.ty, .int .i64 h.ln, .int .i64 h.sz]
/-- The numbers are a byte's and three ints'. -/
structure Hd.ok (h : Hd) : Prop where
  g0 : 0 ≤ h.tg
  g1 : h.tg ≤ 255
  t0 : -9223372036854775808 ≤ h.ty
  t1 : h.ty ≤ 9223372036854775807
  l0 : -9223372036854775808 ≤ h.ln
  l1 : h.ln ≤ 9223372036854775807
  s0 : -9223372036854775808 ≤ h.sz
  s1 : h.sz ≤ 9223372036854775807
theorem Hd.zero_ok : Hd.zero.ok := by constructor <;> decide
/-- Each number has room in its field. -/
def Hd.room (h : Hd) : Prop := 0 ≤ h.ty ∧ h.ty ≤ 4095 ∧ 0 ≤ h.ln ∧ h.ln ≤ 16777215 ∧ 0 ≤ h.sz ∧ h.sz ≤ 16777215
instance (h : Hd) : Decidable h.room := by unfold Hd.room; infer_instance
/-- It is valid. -/
def Hd.can (h : Hd) : Prop := (1 ≤ h.sz ∧ h.sz ≤ 16777215 ∧ 0 ≤ h.ln ∧ h.ln ≤ 16777215) ∧ ((h.tg = 1 ∧ 1 ≤ h.ty ∧ h.ty ≤ 4095) ∨ ((h.tg = 2 ∨ h.tg = 3) ∧ h.ty = 0 ∧ h.ln = 0))
instance (h : Hd) : Decidable h.can := by unfold Hd.can; infer_instance
def wordI (h : Hd) : Int := h.tg + 4 * h.ty + 65536 * h.ln + 1099511627776 * h.sz
def headI (w : Int) : Hd := ⟨w % 4, w / 4 % 4096, w / 65536 % 16777216, w / 1099511627776⟩
def errH (h : Hd) : Int := if h.can then 0 else 2
def encW (h : Hd) : Int := if h.can then wordI h else 0
def isHead (w : Int) : Bool := decide ((headI w).can ∧ wordI (headI w) = w)
def decH (w : Int) : Hd := if isHead w then headI w else Hd.zero
def decE (w : Int) : Int := if isHead w then 0 else 7
theorem word_range {h : Hd} (c : h.can) : 0 ≤ wordI h ∧ wordI h ≤ 18446744073709551615 := by
  unfold Hd.can at c; unfold wordI; omega
theorem head_word {h : Hd} (c : h.can) : headI (wordI h) = h := by
  unfold Hd.can at c
  have e1 : (headI (wordI h)).tg = h.tg := by simp only [headI, wordI]; omega
  have e2 : (headI (wordI h)).ty = h.ty := by simp only [headI, wordI]; omega
  have e3 : (headI (wordI h)).ln = h.ln := by simp only [headI, wordI]; omega
  have e4 : (headI (wordI h)).sz = h.sz := by simp only [headI, wordI]; omega
  exact Hd.eq e1 e2 e3 e4
theorem head_ok {w : Int} (h0 : 0 ≤ w) (h1 : w ≤ 18446744073709551615) : (headI w).ok := by
  constructor <;> (simp only [headI]; omega)
/-- What was encoded is decoded. -/
theorem isHead_word {h : Hd} (c : h.can) : isHead (wordI h) = true := by
  unfold isHead; rw [head_word c]; exact decide_eq_true ⟨c, rfl⟩
theorem errH_yes {h : Hd} (c : h.can) : errH h = 0 := if_pos c
theorem errH_no {h : Hd} (c : ¬ h.can) : errH h = 2 := if_neg c
theorem encW_yes {h : Hd} (c : h.can) : encW h = wordI h := if_pos c
theorem encW_no {h : Hd} (c : ¬ h.can) : encW h = 0 := if_neg c
theorem dec_yes {w : Int} (h : isHead w = true) : decH w = headI w ∧ decE w = 0 := by simp [decH, decE, h]
theorem dec_no {w : Int} (h : isHead w = false) : decH w = Hd.zero ∧ decE w = 7 := by simp [decH, decE, h]
theorem isHead_iff {w : Int} : isHead w = true ↔ (headI w).can ∧ wordI (headI w) = w := by
  unfold isHead; exact decide_eq_true_iff
/-! ### Bits joined, bits cut -/
theorem or_lay (u v : Nat) (k : Nat) (hu : u < 2 ^ k) : u ||| 2 ^ k * v = 2 ^ k * v + u := by
  rw [Nat.or_comm, ← Nat.two_pow_add_eq_or_of_lt hu]
theorem lay_bits (u v : Nat) (k : Nat) (hu : u < 2 ^ k) (h : 2 ^ k * v + u < 18446744073709551616) (hk : 2 ^ k ≤ 18446744073709551616) : bits .or .u64 (u : Int) ((2 ^ k * v : Nat) : Int) = ((2 ^ k * v + u : Nat) : Int) := by
  rw [bits_or_u64_nat u (2 ^ k * v) (by omega) (by omega), or_lay u v k hu]
theorem lay2 (u v : Int) (hu0 : 0 ≤ u) (hu : u < 4) (hv0 : 0 ≤ v) (hv : v < 4611686018427387904) : bits .or .u64 u (v * 4) = u + 4 * v := by
  have h := lay_bits u.toNat v.toNat 2 (by omega) (by omega) (by decide)
  have e1 : ((u.toNat : Nat) : Int) = u := by omega
  have e2 : ((2 ^ 2 * v.toNat : Nat) : Int) = v * 4 := by omega
  have e3 : ((2 ^ 2 * v.toNat + u.toNat : Nat) : Int) = u + 4 * v := by omega
  rw [e1, e2, e3] at h
  exact h
theorem lay16 (u v : Int) (hu0 : 0 ≤ u) (hu : u < 65536) (hv0 : 0 ≤ v) (hv : v < 281474976710656) : bits .or .u64 u (v * 65536) = u + 65536 * v := by
  have h := lay_bits u.toNat v.toNat 16 (by omega) (by omega) (by decide)
  have e1 : ((u.toNat : Nat) : Int) = u := by omega
  have e2 : ((2 ^ 16 * v.toNat : Nat) : Int) = v * 65536 := by omega
  have e3 : ((2 ^ 16 * v.toNat + u.toNat : Nat) : Int) = u + 65536 * v := by omega
  rw [e1, e2, e3] at h
  exact h
theorem lay40 (u v : Int) (hu0 : 0 ≤ u) (hu : u < 1099511627776) (hv0 : 0 ≤ v) (hv : v < 16777216) : bits .or .u64 u (v * 1099511627776) = u + 1099511627776 * v := by
  have h := lay_bits u.toNat v.toNat 40 (by omega) (by omega) (by decide)
  have e1 : ((u.toNat : Nat) : Int) = u := by omega
  have e2 : ((2 ^ 40 * v.toNat : Nat) : Int) = v * 1099511627776 := by omega
  have e3 : ((2 ^ 40 * v.toNat + u.toNat : Nat) : Int) = u + 1099511627776 * v := by omega
  rw [e1, e2, e3] at h
  exact h
theorem lay0 (v : Int) (hv0 : 0 ≤ v) (hv : v < 18446744073709551616) : bits .or .u64 0 v = v := by
  have h := lay_bits 0 v.toNat 0 (by omega) (by omega) (by decide)
  have e2 : ((2 ^ 0 * v.toNat : Nat) : Int) = v := by omega
  have e3 : ((2 ^ 0 * v.toNat + 0 : Nat) : Int) = v := by omega
  rw [e2, e3] at h
  exact h
theorem and_mask (n m : Int) (k : Nat) (hk : k < 63) (hm : (BitVec.ofInt 64 m).toNat = 2 ^ k - 1) (hd : ((2 ^ k : Nat) : Int) ∣ 18446744073709551616) : bits .and .i64 n m = n % ((2 ^ k : Nat) : Int) := by
  have key : (BitVec.ofInt 64 n &&& BitVec.ofInt 64 m).toNat = (n % ((2 ^ 64 : Nat) : Int)).toNat % 2 ^ k := by
    rw [BitVec.toNat_and, BitVec.toNat_ofInt, hm, Nat.and_two_pow_sub_one_eq_mod]
  show IntKind.i64.wrap ((BitVec.ofInt 64 n &&& BitVec.ofInt 64 m).toNat : Nat) = _
  have hp : 2 ^ k < 2 ^ 63 := Nat.pow_lt_pow_right (by decide) hk
  have hlt : (n % ((2 ^ 64 : Nat) : Int)).toNat % 2 ^ k < 2 ^ k := Nat.mod_lt _ (Nat.two_pow_pos k)
  have e : (((n % ((2 ^ 64 : Nat) : Int)).toNat % 2 ^ k : Nat) : Int) = n % ((2 ^ k : Nat) : Int) := by
    rw [Int.natCast_emod, Int.toNat_of_nonneg (by omega)]
    exact Int.emod_emod_of_dvd n (by simpa using hd)
  rw [key, IntKind.wrap_i64, ← e]
  omega
theorem and3 (n : Int) : bits .and .i64 n 3 = n % 4 := and_mask n 3 2 (by decide) (by decide) (by decide)
theorem and4095 (n : Int) : bits .and .i64 n 4095 = n % 4096 := and_mask n 4095 12 (by decide) (by decide) (by decide)
theorem and24 (n : Int) : bits .and .i64 n 16777215 = n % 16777216 := and_mask n 16777215 24 (by decide) (by decide) (by decide)
end Go.Proofs.YtagmmbkgjomdlaaGreatDoor.Hd

/-
  Rows of cells ([]api.Cell): as cells of a block, five each; append of one, of a row, in a walk and in a round; what is seen of such a row.
-/
namespace Go.Proofs.YtagmmbkgjomdlaaGreatDoor.Sp
open Go.RowKit Go.Proofs.YtagmmbkgjomdlaaGreatDoor.Ar Go.Proofs.YtagmmbkgjomdlaaGreatDoor.Lk
open Go.Proofs.YtagmmbkgjomdlaaGreatDoor.Hd (Hd)
set_option linter.unusedVariables false

/-- A cell: where it begins, and its header. -/
structure Cel where
  a : Int
  h : Hd
theorem Cel.eq {x y : Cel} (h1 : x.a = y.a) (h2 : x.h = y.h) : x = y := by
  cases x; cases y; simp at h1 h2; rw [h1, h2]
def Cel.zero : Cel := ⟨0, Hd.zero⟩
def Cel.l (c : Cel) : List Value := [.int .i64 c.a, .int .u8 c.h.tg, .int .i64 c.h.ty, .int .i64 c.h.ln, .int .i64 c.h.sz]
def Cel.val (c : Cel) : Value := .agg #[.int .i64 c.a, .int .u8 c.h.tg, .int .i64 c.h.ty, .int .i64 c.h.ln, .int .i64 c.h.sz]
/-- A list of cells as cells of memory. -/
def celCells : List Cel → List Value
  | [] => []
  | x :: xs => .int .i64 x.a :: .int .u8 x.h.tg :: .int .i64 x.h.ty :: .int .i64 x.h.ln :: .int .i64 x.h.sz :: celCells xs
theorem celCells_length : ∀ l : List Cel, (celCells l).length = l.length * 5
  | [] => rfl
  | x :: xs => by
    show (celCells xs).length + 1 + 1 + 1 + 1 + 1 = (xs.length + 1) * 5
    rw [celCells_length xs]
    omega
theorem celCells_append : ∀ (a b : List Cel), celCells (a ++ b) = celCells a ++ celCells b
  | [], b => rfl
  | x :: xs, b => by
    show _ :: _ :: _ :: _ :: _ :: celCells (xs ++ b) = _ :: _ :: _ :: _ :: _ :: (celCells xs ++ celCells b)
    rw [celCells_append xs b]
theorem celCells_get : ∀ (l : List Cel) (i : Nat), i < l.length → (celCells l)[i * 5]? = some (.int .i64 (l.getD i Cel.zero).a) ∧ (celCells l)[i * 5 + 1]? = some (.int .u8 (l.getD i Cel.zero).h.tg) ∧ (celCells l)[i * 5 + 2]? = some (.int .i64 (l.getD i Cel.zero).h.ty) ∧ (celCells l)[i * 5 + 3]? = some (.int .i64 (l.getD i Cel.zero).h.ln) ∧ (celCells l)[i * 5 + 4]? = some (.int .i64 (l.getD i Cel.zero).h.sz)
  | [], i, h => absurd h (by simp)
  | x :: xs, 0, _ => ⟨rfl, rfl, rfl, rfl, rfl⟩
  | x :: xs, i + 1, h => by
    have := celCells_get xs i (by simpa using h)
    rw [show (i + 1) * 5 = i * 5 + 1 + 1 + 1 + 1 + 1 by omega]
    exact this
theorem celCells_one (l : List Cel) : ∀ v ∈ celCells l, v.oneCell' = true := by
  induction l with
  | nil => intro v hv; cases hv
  | cons r rs ih =>
    intro v hv
    rcases List.mem_cons.1 hv with rfl | hv
    · rfl
    · rcases List.mem_cons.1 hv with rfl | hv
      · rfl
      · rcases List.mem_cons.1 hv with rfl | hv
        · rfl
        · rcases List.mem_cons.1 hv with rfl | hv
          · rfl
          · rcases List.mem_cons.1 hv with rfl | hv
            · rfl
            · exact ih v hv
theorem celCells_drop : ∀ (l : List Cel) (k : Nat), celCells (l.drop k) = (celCells l).drop (k * 5)
  | l, 0 => by simp
  | [], k + 1 => by simp [celCells]
  | x :: xs, k + 1 => by
    rw [List.drop_succ_cons, celCells_drop xs k, show (k + 1) * 5 = k * 5 + 1 + 1 + 1 + 1 + 1 by omega]
    rfl
theorem celCells_take : ∀ (l : List Cel) (k : Nat), celCells (l.take k) = (celCells l).take (k * 5)
  | l, 0 => by simp [celCells]
  | [], k + 1 => by simp [celCells]
  | x :: xs, k + 1 => by
    rw [List.take_succ_cons, show (k + 1) * 5 = k * 5 + 1 + 1 + 1 + 1 + 1 by omega]
    show _ :: _ :: _ :: _ :: _ :: celCells (xs.take k) = _ :: _ :: _ :: _ :: _ :: (celCells xs).take (k * 5)
    rw [celCells_take xs k]
theorem info_cell : (Tryz.prog.info? 78).map (fun i => (i.zero, i.size, i.bytes)) = some (some (.agg #[.int .i64 0, .int .u8 0, .int .i64 0, .int .i64 0, .int .i64 0]), 5, 40) := by kernel_rfl
/-- What is seen of a row of cells. -/
def Seen (w : World) (A : Option Addr) (l : List Cel) : Prop := l ≠ [] → ∃ g f, A = some ⟨g, f, none⟩ ∧ g < w.heap.size ∧ ∀ j v, (celCells l)[j]? = some v → w.cell? ⟨g, f + j, none⟩ = some v
theorem Seen.nil (w : World) (A : Option Addr) : Seen w A [] := fun h => absurd rfl h
theorem Seen.keep {w w' : World} {A : Option Addr} {l : List Cel} (h : Seen w A l) (hk : ∀ g f, A = some ⟨g, f, none⟩ → g < w.heap.size → w'.heap[g]? = w.heap[g]?) (hs : w.heap.size ≤ w'.heap.size) : Seen w' A l := by
  intro hl
  obtain ⟨g, f, e, hlt, hc⟩ := h hl
  exact ⟨g, f, e, Nat.lt_of_lt_of_le hlt hs, fun j v hv => by rw [World.cell?_of_block (a := ⟨g, f + j, none⟩) (hk g f e hlt)]; exact hc j v hv⟩
theorem Seen.keep0 {w w' : World} {A : Option Addr} {l : List Cel} (h : Seen w A l) (k : Kept [] w w') : Seen w' A l :=
  h.keep (fun g f _ hg => k.old g hg (by simp)) k.more
theorem Seen.at {w : World} {A : Option Addr} {l : List Cel} (h : Seen w A l) (i : Nat) (hi : i < l.length) (x : Cel) (hx : x = l.getD i Cel.zero) : ∃ g f, A = some ⟨g, f, none⟩ ∧ g < w.heap.size ∧
    w.cell? ⟨g, f + i * 5, none⟩ = some (.int .i64 x.a) ∧ w.cell? ⟨g, f + i * 5 + 1, none⟩ = some (.int .u8 x.h.tg) ∧ w.cell? ⟨g, f + i * 5 + 2, none⟩ = some (.int .i64 x.h.ty) ∧ w.cell? ⟨g, f + i * 5 + 3, none⟩ = some (.int .i64 x.h.ln) ∧ w.cell? ⟨g, f + i * 5 + 4, none⟩ = some (.int .i64 x.h.sz) := by
  subst hx
  obtain ⟨g, f, e, hlt, hc⟩ := h (by rintro rfl; cases hi)
  obtain ⟨h0, h1, h2, h3, h4⟩ := celCells_get l i hi
  exact ⟨g, f, e, hlt, hc _ _ h0, hc _ _ h1, hc _ _ h2, hc _ _ h3, hc _ _ h4⟩
theorem seen_one {w : World} {b : Nat} {t : TypeId} {x : Cel} (h : Has w b t [.int .i64 x.a, .int .u8 x.h.tg, .int .i64 x.h.ty, .int .i64 x.h.ln, .int .i64 x.h.sz]) : Seen w (some ⟨b, 0, none⟩) [x] :=
  fun _ => ⟨b, 0, rfl, h.lt, fun j v hv => by rw [Nat.zero_add, h.cell]; exact hv⟩
/-- A part of what is seen. -/
theorem Seen.drop {w : World} {g f : Nat} {l : List Cel} (h : Seen w (some ⟨g, f, none⟩) l) (k : Nat) : Seen w (some ⟨g, f + k * 5, none⟩) (l.drop k) := by
  intro hl
  obtain ⟨g', f', e, hlt, hc⟩ := h (by rintro rfl; simp at hl)
  injection e with e
  injection e with e1 e2
  subst e1 e2
  refine ⟨g, _, rfl, hlt, fun j v hv => ?_⟩
  rw [celCells_drop, List.getElem?_drop] at hv
  rw [show f + k * 5 + j = f + (k * 5 + j) by omega]
  exact hc _ _ hv
theorem Seen.take {w : World} {A : Option Addr} {l : List Cel} (h : Seen w A l) (k : Nat) : Seen w A (l.take k) := by
  intro hl
  obtain ⟨g, f, e, hlt, hc⟩ := h (by rintro rfl; simp at hl)
  refine ⟨g, f, e, hlt, fun j v hv => hc j v ?_⟩
  rw [celCells_take, List.getElem?_take] at hv
  split at hv
  · exact hv
  · cases hv
/-- A slice value that was made by appends alone, with these cells. -/
def Own (w : World) (v : Value) (l : List Cel) : Prop := w.ownsRow 0 78 5 v l.length (celCells l)
theorem Own.nil (w : World) : Own w (.slice none 0 0) [] := World.ownsRow_nil w 0 _ 5
theorem Own.form {w : World} {v : Value} {l : List Cel} (h : Own w v l) : (v = .slice none 0 0 ∧ l = []) ∨ ∃ g cap, v = .slice (some ⟨g, 0, none⟩) l.length cap ∧ g < w.heap.size ∧ l.length ≤ cap ∧ cap ≤ maxLen := by
  rcases h.2 with ⟨rfl, h0⟩ | ⟨g, cap, cur, rfl, _, hg, hc, hm, _⟩
  · exact .inl ⟨rfl, List.eq_nil_of_length_eq_zero h0⟩
  · exact .inr ⟨g, cap, rfl, (Array.getElem?_eq_some_iff.1 hg).1, hc, hm⟩
theorem Own.cell {w : World} {g n cap : Nat} {l : List Cel} (h : Own w (.slice (some ⟨g, 0, none⟩) n cap) l) : ∀ j v, (celCells l)[j]? = some v → w.cell? ⟨g, j, none⟩ = some v := by
  intro j v hv
  rcases h.2 with ⟨h1, _⟩ | ⟨g', cap', cur, h1, _, hg, _, _, _, ht⟩
  · cases h1
  · injection h1 with h1 h2 h3
    injection h1 with h1
    injection h1 with h1
    subst h1
    rw [cell_of_row w g j cur _ (0, 0) hg, ← Array.getElem?_toList]
    rw [← ht, List.getElem?_take] at hv
    split at hv
    · exact hv
    · cases hv
theorem Own.seen {w : World} {A : Option Addr} {n cap : Nat} {l : List Cel} (h : Own w (.slice A n cap) l) : Seen w A l := by
  intro hl
  rcases h.form with ⟨_, e⟩ | ⟨g, c, e, hg, _⟩
  · exact absurd e hl
  · injection e with e1 e2 e3
    subst e1
    exact ⟨g, 0, rfl, hg, fun j v hv => by rw [Nat.zero_add]; exact Own.cell h j v hv⟩
theorem Own.keep {w w' : World} {v : Value} {l : List Cel} {row : Option Nat} (h : Own w v l) (hg : w.grownBy w' row) (hne : v.ownBlock = none ∨ v.ownBlock ≠ row) : Own w' v l := World.ownsRow.kept h hg hne
theorem Own.kept {w w' : World} {v : Value} {l : List Cel} {S : List Nat} (h : Own w v l) (k : Kept S w w') (hS : ∀ g ∈ S, v.ownBlock ≠ some g) : Own w' v l := by
  refine ⟨h.1, ?_⟩
  rcases h.2 with hn | ⟨g, cap, cur, rfl, hb, hg, rest⟩
  · exact .inl hn
  · refine .inr ⟨g, cap, cur, rfl, hb, ?_, rest⟩
    rw [k.old g (Array.getElem?_eq_some_iff.1 hg).1 fun hs => hS g hs rfl]
    exact hg
theorem Own.keep0 {w w' : World} {v : Value} {l : List Cel} (h : Own w v l) (k : Kept [] w w') : Own w' v l := h.kept k fun _ hi => by cases hi
theorem Own.lt {w : World} {v : Value} {l : List Cel} (h : Own w v l) : ∀ g, v.ownBlock = some g → g < w.heap.size := fun g hg => (World.ownsRow.lt h g hg).2
theorem Own.block_type {w : World} {v : Value} {b : Nat} {l : List Cel} {t : TypeId} {cs : List Value} (h : Own w v l) (h' : Has w b t cs) (ht : t ≠ 78) : v.ownBlock ≠ some b := by
  rcases h.2 with ⟨rfl, _⟩ | ⟨g', cap', cur, rfl, _, hg, _⟩
  · intro e; cases e
  · intro e
    have e : g' = b := by simpa [Value.ownBlock] using e
    subst e
    have e := h'.symm.trans hg
    injection e with e
    injection e with _ e
    exact ht e
/-- append, where what is appended is a row of cells that is seen (nil, empty or not). -/
theorem append_cels {w : World} {ops : Array Oper} {rest : List Oper} {o : Oper} {a : Act} {Q : Exit → Act → World → Prop} (hgd : o.guard = none) (s x : Operand)
    (ho : o.op = .call { callee := .builtin .append, args := #[s, x], argTypes := #[36, 36] })
    (v : Value) (l : List Cel) (hs : a.eval s = v) (hown : Own w v l) (A : Option Addr) (c : Nat) (news : List Cel) (hx : a.eval x = .slice A news.length c) (hnil : A = none → c = 0) (hseen : Seen w A news)
    (hb : l.length + news.length ≤ 1073741824)
    (h : ∀ v' w', Own w' v' (l ++ news) → w.grownBy w' v.ownBlock → (v'.ownBlock = v.ownBlock ∨ v'.ownBlock = some w.heap.size) → (v' = .slice none 0 0 ↔ v = .slice none 0 0 ∧ news = []) → wpList Tryz.prog ops Q rest (a.put o.dst v') w') : wpList Tryz.prog ops Q (o :: rest) a w := by
  obtain ⟨i0, hi, hz0, hz1, hz2⟩ := info_parts info_cell
  cases A with
  | none =>
    have hn : news = [] := by
      cases news with
      | nil => rfl
      | cons y ys =>
        obtain ⟨g, f, e, _⟩ := hseen (by simp)
        cases e
    subst hn
    obtain rfl := hnil rfl
    refine wpList_append_own_none hgd s x 36 ho 0 78 i0 5 Tryz.underlying36 hi v l.length (celCells l) hs hown hx ?_
    exact h v w (by rw [List.append_nil]; exact hown) (World.grownBy.refl w _) (.inl rfl) ⟨fun e => ⟨e, rfl⟩, fun e => e.1⟩
  | some ad =>
    refine wpList_append_own_at w hgd s x 36 ho 0 78 i0 _ 5 40 Tryz.underlying36 hi hz0 hz1 hz2 rfl (by decide) v l.length (celCells l) hs hown ad news.length c (celCells news) hx (celCells_length news) ?_ (celCells_one news) (by unfold maxLen; omega) (by omega) (Nat.zero_le _) ?_
    · intro j u hu
      by_cases hne : news = []
      · subst hne; cases hu
      · obtain ⟨g, f, e, _, hc⟩ := hseen hne
        obtain rfl := Option.some.inj e
        rw [add_at]
        exact hc j u hu
    · intro v' w' h1 h2 h3 h4
      refine h v' w' ?_ h2 h4 (h3.trans (and_congr_right fun _ => List.length_eq_zero_iff))
      unfold Own
      rw [List.length_append, celCells_append]
      exact h1
/-- A slice that a call hands back, as a row of cells. -/
def Back (w x : World) (A : Option Addr) (c : Nat) (l : List Cel) : Prop := (A = none → c = 0) ∧ Seen x A l ∧ Kept [] w x
theorem back_own {w y : World} {v : Value} {l : List Cel} (hk : Kept [] w y) (hO : Own y v l) : ∃ A c, v = .slice A l.length c ∧ Back w y A c l := by
  rcases hO.form with ⟨rfl, rfl⟩ | ⟨g', cap', rfl, hlt, _, _⟩
  · exact ⟨none, 0, rfl, (fun _ => rfl), (fun h => absurd rfl h), hk⟩
  · exact ⟨_, _, rfl, (fun h => by cases h), Own.seen hO, hk⟩
theorem append_cels_in {F : Fence} {n : Nat} {w : World} {ops : Array Oper} {rest : List Oper} {o : Oper} {a : Act} {Q : Exit → Act → World → Prop} (hgd : o.guard = none) (s x : Operand)
    (ho : o.op = .call { callee := .builtin .append, args := #[s, x], argTypes := #[36, 36] })
    (v : Value) (l : List Cel) (hs : a.eval s = v) (hown : Own w v l) (g c : Nat) (y : Cel) (hx : a.eval x = .slice (some ⟨g, 0, none⟩) 1 c)
    (h0 : Has w g 78 y.l) (hb : l.length ≤ 1073741824)
    (h : ∀ v' w', Own w' v' (l ++ [y]) → w.grownBy w' v.ownBlock → (v'.ownBlock = v.ownBlock ∨ v'.ownBlock = some w.heap.size) → wpListIn F n Tryz.prog ops Q rest (a.put o.dst v') w') : wpListIn F n Tryz.prog ops Q (o :: rest) a w := by
  obtain ⟨i0, hi, hz0, hz1, hz2⟩ := info_parts info_cell
  refine wpListIn_append_own_at w hgd s x 36 ho 0 78 i0 _ 5 40 Tryz.underlying36 hi hz0 hz1 hz2 rfl (by decide) v l.length (celCells l) hs hown ⟨g, 0, none⟩ 1 c (celCells [y]) hx rfl ?_ (celCells_one _) (by unfold maxLen; omega) (by omega) (Nat.zero_le _) ?_
  · intro j u hu
    rw [add_at, Nat.zero_add, h0.cell]
    exact hu
  · intro v' w' h1 h2 _ h4
    refine h v' w' ?_ h2 h4
    unfold Own
    rw [List.length_append, celCells_append]
    exact h1
theorem own_from {B : Nat} {v : Value} {rs : List Cel} : OwnFrom B (fun (_ : Unit) W => Own W v rs) :=
  fun s X Y row hs hg hr => Own.keep hs hg (by
    rcases hs.2 with ⟨rfl, _⟩ | ⟨g, cap, cur, rfl, _, hb, _⟩
    · exact .inl rfl
    · refine .inr fun e => ?_
      obtain ⟨_, o, ho, hc⟩ := hr g e.symm
      rw [ho] at hb
      injection hb with hb
      subst hb
      cases hc)
theorem own_cells {w : World} {v : Value} {rs : List Cel} (h : Own w v rs) : ∀ b ∈ v.ownBlock.toList, ∃ cs, Has w b 78 cs := by
  intro b hb
  rcases h.2 with ⟨rfl, _⟩ | ⟨g, cap, cur, rfl, _, hg, _⟩
  · cases hb
  · obtain rfl : b = g := by simpa [Value.ownBlock] using hb
    exact ⟨cur.toList, hg⟩
theorem own_put {w : World} {v : Value} {rs : List Cel} (h : Own w v rs) (D : Nat) (o o' : Obj) (hD : w.heap[D]? = some o) (hc : o.isCells = false) : Own (w.putObj D o') v rs :=
  own_from (B := 0) () w _ (some D) h (grownBy_putObj' w D o') fun r e => by injection e with e; subst e; exact ⟨Nat.zero_le _, o, hD, hc⟩
theorem kept_grown {w w' : World} {v : Value} (hg : w.grownBy w' v.ownBlock) : Kept v.ownBlock.toList w w' :=
  (Kept.refl _ w).grown hg fun g e => .inl (by rw [e]; simp)
end Go.Proofs.YtagmmbkgjomdlaaGreatDoor.Sp
