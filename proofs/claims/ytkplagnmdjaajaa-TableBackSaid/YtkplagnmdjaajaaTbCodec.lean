/-
  What is put is read, and what was read is put: of lists and bytes alone.
-/
import Derived.Test.YtkplagnmdjaajaaTbPut
import Derived.Test.YtkplagnmdjaajaaTbDocRead
namespace Go.Proofs.Ytkplagnmdjaajaa.Tb
open Go.RowKit Go.Proofs.Ytkplagnmdjaajaa.Ar
set_option linter.unusedVariables false

/-- Some bytes of a string, as numbers. -/
def sl (s : ByteArray) (o m : Nat) : List Int := (List.range m).map fun i => (bt s (o + i) : Int)
theorem sl_length (s : ByteArray) (o m : Nat) : (sl s o m).length = m := by rw [sl, List.length_map, List.length_range]
theorem sl_succ (s : ByteArray) (o m : Nat) : sl s o (m + 1) = sl s o m ++ [(bt s (o + m) : Int)] := by
  unfold sl
  rw [List.range_succ, List.map_append]
  rfl
theorem sl_append (s : ByteArray) (o a : Nat) : ∀ b, sl s o (a + b) = sl s o a ++ sl s (o + a) b
  | 0 => by rw [Nat.add_zero]; show _ = _ ++ []; rw [List.append_nil]
  | b + 1 => by
    rw [← Nat.add_assoc, sl_succ, sl_succ, sl_append s o a b, List.append_assoc, Nat.add_assoc o a b]
theorem sl_cons (s : ByteArray) (m : Nat) : sl s 0 (1 + m) = (bt s 0 : Int) :: sl s 1 m := by
  rw [sl_append]
  rfl
theorem mb_nat (ms k : Nat) : mb ms k = ((ms / 2 ^ (k * 8) % 256 : Nat) : Int) := by
  unfold mb
  rw [Int.natCast_emod, Int.natCast_ediv, Int.natCast_pow]
  rfl
theorem num_mod (ms : Nat) : ∀ k, num (fun k => ms / 2 ^ (k * 8) % 256) k = ms % 2 ^ (k * 8)
  | 0 => by rw [Nat.zero_mul, Nat.pow_zero, Nat.mod_one]; rfl
  | k + 1 => by
    show num _ k + ms / 2 ^ (k * 8) % 256 * 2 ^ (k * 8) = _
    rw [num_mod ms k, Nat.add_mul, Nat.one_mul, Nat.pow_add, Nat.mod_mul, Nat.mul_comm (2 ^ (k * 8))]
theorem num_all {ms : Nat} (h : ms < 18446744073709551616) : num (fun k => ms / 2 ^ (k * 8) % 256) 8 = ms := by
  rw [num_mod]
  exact Nat.mod_eq_of_lt h
theorem num_congr {f g : Nat → Nat} : ∀ k, (∀ i, i < k → f i = g i) → num f k = num g k
  | 0, _ => rfl
  | k + 1, h => by
    show num f k + f k * _ = num g k + g k * _
    rw [num_congr k fun i hi => h i (by omega), h k (by omega)]
theorem num_byte {f : Nat → Nat} (hf : ∀ i, f i < 256) : ∀ n k, k < n → num f n / 2 ^ (k * 8) % 256 = f k
  | 0, k, h => by omega
  | n + 1, k, h => by
    show (num f n + f n * 2 ^ (n * 8)) / 2 ^ (k * 8) % 256 = f k
    by_cases e : k = n
    · subst e
      rw [Nat.add_mul_div_right _ _ (Nat.two_pow_pos _), Nat.div_eq_of_lt (num_lt hf k), Nat.zero_add]
      exact Nat.mod_eq_of_lt (hf k)
    · have hk : k < n := by omega
      have e1 : 2 ^ (n * 8) = 2 ^ ((n - k - 1) * 8) * 256 * 2 ^ (k * 8) := by
        rw [show (256 : Nat) = 2 ^ 8 by decide, ← Nat.pow_add, ← Nat.pow_add]
        congr 1
        omega
      rw [e1, ← Nat.mul_assoc, Nat.add_mul_div_right _ _ (Nat.two_pow_pos _), ← Nat.mul_assoc, Nat.add_mul_mod_self_right]
      exact num_byte hf n k hk
theorem maskTo_sl (s : ByteArray) (o : Nat) : ∀ k, k ≤ 8 → maskTo (num (fun i => bt s (o + i)) 8) k = sl s o k
  | 0, _ => rfl
  | k + 1, h => by
    show maskTo _ k ++ [mb _ k] = _
    rw [maskTo_sl s o k (by omega), sl_succ, mb_nat, num_byte (fun i => bt_lt s _) 8 k (by omega)]
theorem encT_decAt (s : ByteArray) (o : Nat) : encT (decAt s o) = sl s o 10 := by
  show [(bt s o : Int), (bt s (o + 1) : Int)] ++ maskTo (num (fun k => bt s (o + 2 + k)) 8) 8 = sl s o (2 + 8)
  rw [maskTo_sl s (o + 2) 8 (Nat.le_refl _), sl_append]
  rfl
theorem encL_tysAt (s : ByteArray) (o : Nat) : ∀ n, encL (tysAt s o n) = sl s o (10 * n)
  | 0 => rfl
  | n + 1 => by
    rw [tysAt_succ, encL_append, encL_tysAt s o n, Nat.mul_add, Nat.mul_one, sl_append]
    show _ ++ (encT _ ++ []) = _
    rw [List.append_nil, encT_decAt]
theorem str_sl (s : ByteArray) : strOfNums (sl s 0 s.size) = s := by
  unfold strOfNums
  apply congrArg ByteArray.mk
  apply Array.ext'
  rw [List.toList_toArray]
  apply List.ext_getElem
  · rw [List.length_map, sl_length]
    exact Array.length_toList.symm
  · intro i h1 h2
    rw [List.getElem_map]
    unfold sl
    rw [List.getElem_map, List.getElem_range, Nat.zero_add]
    unfold bt
    rw [List.getD_eq_getElem?_getD, List.getElem?_eq_getElem h2]
    show UInt8.ofNat ((s.data.toList[i].toNat : Int).toNat) = _
    rw [Int.toNat_natCast, UInt8.ofNat_toNat]
/-- The bytes that were read are the bytes that are put. -/
theorem put_read {s : ByteArray} (h1 : s.size = 1 + bt s 0 * 10) : strOfNums (enc (tysAt s 1 (bt s 0))) = s := by
  have e : enc (tysAt s 1 (bt s 0)) = sl s 0 s.size := by
    unfold enc
    rw [tysAt_length, encL_tysAt, h1, Nat.mul_comm 10, sl_cons]
  rw [e, str_sl]
/-- Numbers that bytes may have. -/
def Bytes (l : List Int) : Prop := ∀ v ∈ l, 0 ≤ v ∧ v < 256
theorem bt_str {l : List Int} (h : Bytes l) {i : Nat} (hi : i < l.length) : (bt (strOfNums l) i : Int) = l.getD i 0 := by
  have hb := h _ (List.getElem_mem hi)
  unfold bt
  rw [strOfNums_data, List.getD_eq_getElem?_getD, List.getElem?_map, List.getElem?_eq_getElem hi, List.getD_eq_getElem?_getD, List.getElem?_eq_getElem hi]
  show ((UInt8.ofNat l[i].toNat).toNat : Int) = l[i]
  rw [UInt8.toNat_ofNat']
  omega
theorem sl_str {l : List Int} (h : Bytes l) : sl (strOfNums l) 0 l.length = l := by
  apply List.ext_getElem
  · rw [sl_length]
  · intro i h1 h2
    simp only [sl, List.getElem_map, List.getElem_range, Nat.zero_add]
    rw [bt_str h h2, List.getD_eq_getElem?_getD, List.getElem?_eq_getElem h2]
    rfl
theorem maskTo_bytes (ms : Nat) : ∀ k, Bytes (maskTo ms k)
  | 0 => fun v hv => by cases hv
  | k + 1 => fun v hv => by
    rcases List.mem_append.1 hv with hv | hv
    · exact maskTo_bytes ms k v hv
    · rw [List.mem_singleton.1 hv, mb_nat]
      have := Nat.mod_lt (ms / 2 ^ (k * 8)) (show 0 < 256 by decide)
      omega
theorem encT_bytes {x : Ty} (h : x.ok ∧ x.fit) : Bytes (encT x) := fun v hv => by
  have hw := fit_words h.2
  have hk := h.1.1
  rcases List.mem_append.1 hv with hv | hv
  · rcases List.mem_cons.1 hv with rfl | hv
    · omega
    · rw [List.mem_singleton.1 hv]
      omega
  · exact maskTo_bytes _ _ v hv
theorem encL_bytes : ∀ {l : List Ty}, (∀ x ∈ l, x.ok ∧ x.fit) → Bytes (encL l)
  | [], _ => fun v hv => by cases hv
  | x :: l, h => fun v hv => by
    rcases List.mem_append.1 hv with hv | hv
    · exact encT_bytes (h x (List.mem_cons_self ..)) v hv
    · exact encL_bytes (fun y hy => h y (List.mem_cons_of_mem _ hy)) v hv
theorem maskTo_inj {a b : Nat} : ∀ k, maskTo a k = maskTo b k → ∀ i, i < k → mb a i = mb b i
  | 0, _ => fun i hi => by omega
  | k + 1, h => fun i hi => by
    obtain ⟨h1, h2⟩ := List.append_inj h (by rw [maskTo_length, maskTo_length])
    by_cases e : i = k
    · subst e
      injection h2
    · exact maskTo_inj k h1 i (by omega)
theorem encT_inj {x y : Ty} (hx : x.ms < 18446744073709551616) (hy : y.ms < 18446744073709551616) (h : encT x = encT y) : x = y := by
  obtain ⟨h1, h2⟩ := List.append_inj h rfl
  injection h1 with e1 h1
  injection h1 with e2 _
  refine Ty.ext (by omega) e2 ?_
  rw [← num_all hx, ← num_all hy]
  refine num_congr 8 fun i hi => ?_
  have := maskTo_inj 8 h2 i hi
  rw [mb_nat, mb_nat] at this
  omega
theorem encL_inj : ∀ {a b : List Ty}, a.length = b.length → (∀ x ∈ a, x.ok) → (∀ x ∈ b, x.ok) → encL a = encL b → a = b
  | [], [], _, _, _, _ => rfl
  | x :: a, y :: b, hl, ha, hb, h => by
    obtain ⟨h1, h2⟩ := List.append_inj h (by rw [encT_length, encT_length])
    rw [encT_inj (ha x (List.mem_cons_self ..)).2 (hb y (List.mem_cons_self ..)).2 h1, encL_inj (by simpa using hl) (fun z hz => ha z (List.mem_cons_of_mem _ hz)) (fun z hz => hb z (List.mem_cons_of_mem _ hz)) h2]
/-- What is put is read. -/
theorem read_put {l : List Ty} (h : ∀ x ∈ l, x.ok ∧ x.fit) (hl : l.length ≤ 64) : readF (strOfNums (enc l)) = (l, 0) := by
  have hb : Bytes (enc l) := fun v hv => by
    rcases List.mem_cons.1 hv with rfl | hv
    · omega
    · exact encL_bytes h v hv
  have hlen : (enc l).length = 1 + l.length * 10 := by
    unfold enc
    rw [List.length_cons, encL_length]
    omega
  have hsz : (strOfNums (enc l)).size = 1 + l.length * 10 := by rw [strOfNums_size, hlen]
  have h0 : bt (strOfNums (enc l)) 0 = l.length := by
    have := bt_str hb (i := 0) (by rw [hlen]; omega)
    unfold enc at this ⊢
    simp only [List.getD_cons_zero] at this
    omega
  have ht : tysAt (strOfNums (enc l)) 1 l.length = l := by
    refine encL_inj (tysAt_length _ _ _) (tysAt_ok _ _ _) (fun x hx => (h x hx).1) ?_
    have e := sl_str hb
    rw [hlen, sl_cons, Nat.mul_comm] at e
    rw [encL_tysAt]
    unfold enc at e ⊢
    injection e
  have := readF_good (s := strOfNums (enc l)) (by omega) (by rw [hsz, h0]) (by omega) (by rw [h0, ht]; exact fun x hx => (h x hx).2)
  rw [this, h0, ht]
end Go.Proofs.Ytkplagnmdjaajaa.Tb
