/-
  The contracts of typeOf and typesOf.
-/
import Derived.Test.YtkplagnmdjaajaaTbRow
import Derived.Laws.Strings3
import Derived.Laws.Bits64b
namespace Go.Proofs.Ytkplagnmdjaajaa.Tb
open Go.RowKit Go.Proofs.Ytkplagnmdjaajaa.Ar Go.Maps
set_option linter.unusedVariables false

/-- Byte i of a string. -/
def bt (s : ByteArray) (i : Nat) : Nat := (s.data.toList.getD i 0).toNat
theorem bt_lt (s : ByteArray) (i : Nat) : bt s i < 256 := UInt8.toNat_lt _
theorem bt_get (s : ByteArray) (i : Nat) (h : i < s.size) : (s[i]'h).toNat = bt s i := by
  unfold bt
  rw [List.getD_eq_getElem?_getD, List.getElem?_eq_getElem (by simpa using h)]
  rfl
/-- Bytes as a number, the lowest first. -/
def num (f : Nat → Nat) : Nat → Nat
  | 0 => 0
  | k + 1 => num f k + f k * 2 ^ (k * 8)
theorem num_lt {f : Nat → Nat} (h : ∀ i, f i < 256) : ∀ k, num f k < 2 ^ (k * 8)
  | 0 => Nat.one_pos
  | k + 1 => by
    have ih := num_lt h k
    have hf := h k
    show num f k + f k * 2 ^ (k * 8) < 2 ^ ((k + 1) * 8)
    rw [Nat.add_mul, Nat.one_mul, Nat.pow_add, Nat.mul_comm (2 ^ (k * 8))]
    have : f k * 2 ^ (k * 8) ≤ 255 * 2 ^ (k * 8) := Nat.mul_le_mul_right _ (by omega)
    have e : (2 ^ 8 : Nat) = 256 := by decide
    rw [e]
    omega
theorem pow_le {j : Nat} (h : j < 8) : 2 ^ (j * 8) * 256 ≤ 18446744073709551616 := by
  have : j = 0 ∨ j = 1 ∨ j = 2 ∨ j = 3 ∨ j = 4 ∨ j = 5 ∨ j = 6 ∨ j = 7 := by omega
  rcases this with rfl | rfl | rfl | rfl | rfl | rfl | rfl | rfl <;> decide
/-- A byte laid above what is there. -/
theorem or_byte {m b j : Nat} (hj : j < 8) (hm : m < 2 ^ (j * 8)) (hb : b < 256) :
    bits .or .u64 (m : Int) (IntKind.u64.wrap (IntKind.u64.wrap (b : Int) * 2 ^ (j * 8))) = ((m + b * 2 ^ (j * 8) : Nat) : Int) := by
  have hp := pow_le hj
  have e0 : IntKind.u64.wrap (b : Int) = (b : Int) := by rw [IntKind.wrap_u64]; omega
  have hle : b * 2 ^ (j * 8) ≤ 255 * 2 ^ (j * 8) := Nat.mul_le_mul_right _ (by omega)
  have e1 : (b : Int) * 2 ^ (j * 8) = ((b * 2 ^ (j * 8) : Nat) : Int) := by rw [Int.natCast_mul, Int.natCast_pow]; rfl
  rw [e0, e1]
  have hlt : b * 2 ^ (j * 8) < 18446744073709551616 := by omega
  have hlt2 : m < 18446744073709551616 := by omega
  have e2 : IntKind.u64.wrap ((b * 2 ^ (j * 8) : Nat) : Int) = ((b * 2 ^ (j * 8) : Nat) : Int) := by rw [IntKind.wrap_u64]; omega
  rw [e2, bits_or_u64_nat _ _ hlt2 hlt, Nat.or_comm, Nat.mul_comm b, ← Nat.two_pow_add_eq_or_of_lt hm, Nat.add_comm]
def decAt (s : ByteArray) (o : Nat) : Ty := ⟨bt s o, (bt s (o + 1) : Int), num (fun k => bt s (o + 2 + k)) 8⟩
theorem ret_one {f : Func} {p : Tmp} (h : f.results = #[.cell p 30]) {a : Act} {X : World} {g : Nat} {v0 v1 v2 : Value} (hp : a.tmps.getD p undef = .pointer (some ⟨g, 0, none⟩)) (hH : Has X g 30 [v0, v1, v2])
    (hdf : a.defers = []) {R : Ending → World → Prop} (hR : R (.returned (.agg #[v0, v1, v2])) X) : bodyPost Try.prog f R .ret a X := by
  refine bodyPost_ret (results_cell_row h a.tmps X g 30 #[v0, v1, v2] (0, 0) _ hp hH Try.underlying30 rfl size_type) hdf hR
set_option maxRecDepth 100000 in
set_option maxHeartbeats 4000000 in
theorem typeOf_ok (s : ByteArray) (hs : 10 ≤ s.size) (hmax : s.size ≤ maxLen) (w : World) :
    Calls Try.prog 38 #[.string s] w fun e w' => e = .returned (decAt s 0).val ∧ Kept [] w w' := by
  have hb := bt_get s
  unfold maxLen at hmax
  unfold Ty.val decAt
  have hf := bt_lt s
  generalize bt s = f at *
  have hw1 : wrap64 ((f 1 : Nat) : Int) = ((f 1 : Nat) : Int) := by have := hf 1; unfold wrap64; omega
  go_enter Try.func38, Try.ntmps38
  go_wp2_with fail
  go_region
  go_wp2_with fail
  have hT := (Has.new (w.alloc (.cells #[.int .u8 0, .int .i64 0, .int .u64 0] 30)) 30 [.int .u8 (f 0 : Int), .int .i64 (f 1 : Int), .int .u64 0]).drew
  rw [World.size_alloc] at hT
  have hR := (((Has.new w 30 [.int .u8 0, .int .i64 0, .int .u64 0]).alloc (.cells #[.int .u8 (f 0 : Int), .int .i64 (f 1 : Int), .int .u64 0] 30))).drew
  have hk := (((Kept.refl [] w).alloc (.cells #[.int .u8 0, .int .i64 0, .int .u64 0] 30)).alloc (.cells #[.int .u8 (f 0 : Int), .int .i64 (f 1 : Int), .int .u64 0] 30)).drew
  have HS := Lib.hid (show Has _ (w.heap.size + 1) _ _ ∧ Has _ w.heap.size _ _ ∧ Kept [] w _ from ⟨hT, hR, hk⟩)
  clear hT hR hk
  generalize hW : ((w.alloc (.cells #[.int .u8 0, .int .i64 0, .int .u64 0] 30)).alloc (.cells #[.int .u8 (f 0 : Int), .int .i64 (f 1 : Int), .int .u64 0] 30)).drew = W at *
  have HB : Hid (w.heap.size ≤ w.heap.size ∧ w.heap.size ≤ w.heap.size + 1 ∧ w.heap.size ≠ w.heap.size + 1) := Lib.hid ⟨Nat.le_refl _, Nat.le_succ _, by omega⟩
  clear hW
  generalize hB1 : w.heap.size + 1 = B1 at *
  generalize hB0 : w.heap.size = B0 at *
  go_loopw [11] (fun t wr => ∃ j : Nat, t = .int .i64 (j : Int) ∧ j ≤ 8 ∧ Hid (Has wr B1 30 [.int .u8 (f 0 : Int), .int .i64 (f 1 : Int), .int .u64 (num (fun k => f (2 + k)) j : Int)] ∧ Has wr B0 30 [.int .u8 0, .int .i64 0, .int .u64 0] ∧ Kept [] w wr)) (fun t _ => 8 - (intOf t).toNat)
  case atStart => exact ⟨0, rfl, by decide, HS⟩
  case round =>
    clear HS
    obtain ⟨j, rfl, hj, hr⟩ := hrel
    by_cases hlt : j < 8
    · obtain ⟨c0, c1, c2⟩ := cells3 hr.out.1
      obtain ⟨f0, f1, f2⟩ := free3 hr.out.1
      have hnl := num_lt (f := fun k => f (2 + k)) (fun i => hf _) j
      generalize hM : num (fun k => f (2 + k)) j = m at *
      have hor := or_byte hlt hnl (hf (2 + j))
      have hq : num (fun k => f (2 + k)) (j + 1) = m + f (2 + j) * 2 ^ (j * 8) := by rw [← hM]; rfl
      rw [← hq] at hor
      generalize num (fun k => f (2 + k)) (j + 1) = q at hor hq
      have HM := Lib.hid hM
      have HQ : Hid (num (fun k => f (2 + k)) (j + 1) = q) := Lib.hid (by rw [hq, ← hM]; rfl)
      clear hM hnl hq
      go_wp2_with fail
      go_region
      have hn := (hr.out.1.put 2 (.int .u64 (q : Int))).drew
      have hz := (hr.out.2.1.beside ⟨B1, 2, none⟩ HB.out.2.2 (.int .u64 (q : Int))).drew
      have hk := (hr.out.2.2.setCell ⟨B1, 2, none⟩ (.int .u64 (q : Int)) (.inr (hB0 ▸ HB.out.2.1))).drew
      have HN : Hid (Has _ B1 _ _ ∧ Has _ B0 _ _ ∧ Kept [] w _) := Lib.hid ⟨hn, hz, hk⟩
      clear hn hz hk hr c0 c1 c2 f0 f1 f2 hor
      generalize (wr.setCell ⟨B1, 2, none⟩ (.int .u64 (q : Int))).drew = W2 at *
      go_wp2_with fail
      go_roundw
      case rel => exact ⟨j + 1, by go_num, by omega, by rw [HQ.out]; exact HN⟩
      case measure => simp [intOf] <;> omega
    · obtain rfl : j = 8 := by omega
      obtain ⟨c0, c1, c2⟩ := cells3 hr.out.1
      obtain ⟨d0, d1, d2⟩ := cells3 hr.out.2.1
      obtain ⟨f0, f1, f2⟩ := free3 hr.out.2.1
      generalize hM : num (fun k => f (2 + k)) 8 = m at *
      have HM := Lib.hid hM
      clear hM
      go_wp2_with fail
      (try simp only [Exit.inBlock, Exit.then])
      refine ret_one rfl rfl (put3_has hr.out.2.1 _ _ _) rfl ⟨?_, put3_kept hr.out.2.2 (.inr (hB0 ▸ HB.out.1)) _ _ _⟩
      rw [← HM.out]
end Go.Proofs.Ytkplagnmdjaajaa.Tb
