/-
  The contract of typesOf.
-/
import Derived.Test.YtkplagnmdjaajaaTbDec
namespace Go.Proofs.Ytkplagnmdjaajaa.Tb
open Go.RowKit Go.Proofs.Ytkplagnmdjaajaa.Ar Go.Maps
set_option linter.unusedVariables false

theorem bt_extract (t : ByteArray) (a i : Nat) : bt (t.extract a t.size) i = bt t (a + i) := by
  unfold bt
  rw [List.getD_eq_getElem?_getD, List.getD_eq_getElem?_getD, Array.getElem?_toList, Array.getElem?_toList, ByteArray.data_extract, Array.getElem?_extract]
  split
  · rfl
  · rename_i h
    rw [Array.getElem?_eq_none (by
      have : t.size = t.data.size := rfl
      omega)]
theorem size_extract (t : ByteArray) (a : Nat) : (t.extract a t.size).size = t.size - a := by
  rw [ByteArray.size_extract, Nat.min_self]
theorem decAt_congr {t s : ByteArray} {o q : Nat} (h : ∀ i, bt t (o + i) = bt s (q + i)) : decAt t o = decAt s q := by
  have h0 := h 0
  have h1 := h 1
  rw [Nat.add_zero, Nat.add_zero] at h0
  have h2 : (fun k => bt t (o + 2 + k)) = fun k => bt s (q + 2 + k) := funext fun k => by rw [Nat.add_assoc, Nat.add_assoc]; exact h (2 + k)
  unfold decAt
  rw [h0, h1, h2]
/-- The types whose encodings stand in a string from o on. -/
def tysAt (s : ByteArray) (o n : Nat) : List Ty := (List.range n).map fun j => decAt s (o + 10 * j)
theorem tysAt_length (s : ByteArray) (o n : Nat) : (tysAt s o n).length = n := by rw [tysAt, List.length_map, List.length_range]
theorem tysAt_succ (s : ByteArray) (o n : Nat) : tysAt s o (n + 1) = tysAt s o n ++ [decAt s (o + 10 * n)] := by
  unfold tysAt
  rw [List.range_succ, List.map_append]
  rfl
theorem decAt_ok (s : ByteArray) (o : Nat) : (decAt s o).ok := ⟨bt_lt _ _, by
  have := num_lt (f := fun k => bt s (o + 2 + k)) (fun i => bt_lt _ _) 8
  exact this⟩
theorem tysAt_ok (s : ByteArray) (o n : Nat) : ∀ x ∈ tysAt s o n, x.ok := by
  intro x hx
  obtain ⟨j, _, rfl⟩ := List.mem_map.1 hx
  exact decAt_ok _ _
theorem tysAt_congr {t s : ByteArray} {o q n : Nat} (h : ∀ i, bt t (o + i) = bt s (q + i)) : tysAt t o n = tysAt s q n :=
  List.map_congr_left fun j _ => decAt_congr fun i => by rw [Nat.add_assoc, Nat.add_assoc]; exact h _
set_option maxRecDepth 100000 in
set_option maxHeartbeats 4000000 in
theorem typesOf_ok (s : ByteArray) (n : Nat) (hs : s.size = 10 * n) (hn : n ≤ 1000) (w : World) :
    Calls Try.prog 33 #[.string s] w fun e w' => ∃ v, e = .returned v ∧ Own w' v (tysAt s 0 n) ∧ Fresh w v ∧ Kept [] w w' := by
  have HS := Lib.hid hs
  go_enter Try.func33, Try.ntmps33
  go_wp2_with fail
  go_loopw [0, 3] (fun u l wr => ∃ (j : Nat) (t : ByteArray), u = .string t ∧ j ≤ n ∧ t.size = 10 * (n - j) ∧ Hid (∀ i, bt t i = bt s (10 * j + i)) ∧ Hid (Own wr l (tysAt s 0 j) ∧ Fresh w l ∧ Kept [] w wr)) (fun u _ _ => match u with | .string t => t.size | _ => 0)
  case atStart => exact ⟨0, s, rfl, Nat.zero_le _, by omega, Lib.hid fun i => by rw [Nat.mul_zero, Nat.zero_add], Lib.hid ⟨Own.nil _, .inl rfl, Kept.refl [] w⟩⟩
  case round =>
    obtain ⟨j, t, rfl, hj, hts, hb, hr⟩ := hrel
    clear hs
    by_cases hlt : j < n
    · have hne : (t.toList == []) = false := by
        rw [beq_eq_false_iff_ne, ByteArray.toList_eq]
        intro e
        have := congrArg List.length e
        have e2 : t.size = t.data.toList.length := Array.length_toList.symm
        rw [List.length_nil, ← e2] at this
        omega
      have HT := Lib.hid (fun y => typeOf_ok t (by omega) (by unfold maxLen; omega) y)
      have hd : decAt t 0 = decAt s (0 + 10 * j) := decAt_congr fun i => by rw [Nat.zero_add, Nat.zero_add]; exact hb.out i
      rw [hd] at HT
      generalize hX : decAt s (0 + 10 * j) = x at *
      have HX := Lib.hid hX
      clear hd hX
      unfold Ty.val at HT
      have hsz := size_extract t 10
      have HB2 : Hid (∀ i, bt (t.extract 10 t.size) i = bt s (10 * (j + 1) + i)) := Lib.hid fun i => by rw [bt_extract, hb.out]; congr 1; omega
      rw [hts] at hsz HB2
      go_wp2_with fail
      refine (HT.out _).mono ?_
      rintro e w1 ⟨rfl, hk1⟩
      have HO0 := Lib.hid (hr.out.1.keep0 hk1)
      have HK0 := Lib.hid (hr.out.2.2.trans hk1)
      have HF := Lib.hid hr.out.2.1
      have HE : Hid (tysAt s 0 (j + 1) = tysAt s 0 j ++ [x]) := Lib.hid (by rw [tysAt_succ, HX.out])
      have hll := tysAt_length s 0 j
      generalize tysAt s 0 j = L at *
      have HK := Lib.hid ((Kept.refl [] w1).alloc (.cells #[.int .u8 (x.k : Int), .int .i64 x.wd, .int .u64 (x.ms : Int)] 30))
      have HSe : Hid (Seen (w1.alloc (.cells #[.int .u8 (x.k : Int), .int .i64 x.wd, .int .u64 (x.ms : Int)] 30)) (some ⟨w1.heap.size, 0, none⟩) [x]) := Lib.hid (seen_one (Has.new w1 30 [.int .u8 (x.k : Int), .int .i64 x.wd, .int .u64 (x.ms : Int)]))
      have HO := Lib.hid (HO0.out.keep0 HK.out)
      clear hk1 HT hr hne
      go_wp2_with (at_builtin; (refine append_types rfl (.tmp 8) (.tmp 11) rfl u3 L rfl HO.out (some ⟨w1.heap.size, 0, none⟩) 1 [x] rfl (fun h => by cases h) HSe.out (by simp only [List.length_cons, List.length_nil]; omega) ?_))
      intro s2 w2 hO2 hG2 hB2 hn2
      have hwk2 := HK0.out.trans HK.out
      have hF2 := own_fresh (v' := s2) hwk2 HF.out (by rw [World.size_alloc]; exact hB2)
      have hK2 := own_grown hwk2 HF.out hG2
      have HN : Hid (Own w2 s2 (tysAt s 0 (j + 1)) ∧ Fresh w s2 ∧ Kept [] w w2) := Lib.hid ⟨by rw [HE.out]; exact hO2, hF2, hK2⟩
      clear hO2 hG2 hB2 hK2 hF2 HK HSe HO hwk2 hn2 HO0 HK0 HF HE
      have h10 : (10 : Int) ≤ (t.size : Int) := by omega
      go_wp2_with fail
      generalize t.extract 10 (10 * (n - j)) = t2 at *
      go_roundw
      case rel => exact ⟨j + 1, t2, rfl, by omega, by omega, HB2, HN⟩
      case measure => show t2.size < t.size; omega
    · obtain rfl : j = n := by omega
      have hne : (t.toList == []) = true := by
        rw [beq_iff_eq, ByteArray.toList_eq]
        apply List.eq_nil_of_length_eq_zero
        rw [Array.length_toList]
        show t.size = 0
        omega
      go_wp2_with fail
      go_ret
      exact ⟨_, rfl, hr.out⟩
end Go.Proofs.Ytkplagnmdjaajaa.Tb
