/-
  The contracts of Size, Add, Copy.
-/
import Derived.Test.YtflcnpmampaamaaDoorTbOps
namespace Go.Proofs.YtflcnpmampaamaaDoor.Tb
open Go.RowKit Go.Proofs.YtflcnpmampaamaaDoor.Ar Go.Maps
set_option linter.unusedVariables false

/-- What Size answers. -/
def sizeT (l : List Ty) (i n : Int) : Int := if hasT l i then Kd.sizeR (getT l i).k (getT l i).wd (getT l i).ms n else 0
def sizeE (l : List Ty) (i n : Int) : Int := if hasT l i then Kd.err (getT l i).k (getT l i).wd (getT l i).ms n else 3
theorem getT_ok {l : List Ty} (h : ∀ x ∈ l, x.ok ∧ x.fit) (i : Int) : (getT l i).ok := by
  unfold getT
  split
  · rename_i hc
    have : (i - 1).toNat < l.length := by omega
    rw [List.getD_eq_getElem?_getD, List.getElem?_eq_getElem this]
    exact (h _ (List.getElem_mem this)).1
  · exact ⟨by decide, by decide⟩
section
variable {w : World} {p : Nat} {A : Option Addr} {c : Nat} {l : List Ty}
set_option maxRecDepth 100000 in
set_option maxHeartbeats 1000000 in
theorem size_ok (h : Tab w p A c l) (i n : Int) (hi0 : -9223372036854775808 ≤ i) (hi1 : i ≤ 9223372036854775807) :
    Calls Tryd.prog 26 #[.pointer (some ⟨p, 0, none⟩), .int .i64 i, .int .i64 n] w fun e w' => e = .returned (.tuple #[.int .i64 (sizeT l i n), .int .i64 (sizeE l i n)]) ∧ Kept [] w w' := by
  have HC := Lib.hid (get_ok h i hi0 hi1)
  have HS := Lib.hid (fun x => Kd.size_ok (getT l i).k (getT l i).wd (getT l i).ms n (getT_ok h.all i).1 (getT_ok h.all i).2 x)
  clear h
  unfold sizeT sizeE
  unfold Kd.typV at HS
  generalize hasT l i = b at *
  generalize getT l i = x at *
  unfold Ty.val at *
  generalize Kd.sizeR x.k x.wd x.ms n = s at *
  generalize Kd.err x.k x.wd x.ms n = er at *
  cases b with
  | true =>
    go_enter Tryd.func26, Tryd.ntmps26
    go_wp2_with fail
    refine HC.out.mono ?_
    rintro e w1 ⟨rfl, h1⟩
    have H1 := Lib.hid h1
    clear h1
    simp only [errT, if_true]
    go_wp2_with fail
    refine (HS.out _).mono ?_
    rintro e w2 ⟨rfl, h2⟩
    have H2 := Lib.hid ((H1.out.alloc _).trans h2)
    clear h2 HS HC
    go_wp2_with fail
    go_ret2
    exact ⟨rfl, H2.out⟩
  | false =>
    clear HS
    go_enter Tryd.func26, Tryd.ntmps26
    go_wp2_with fail
    refine HC.out.mono ?_
    rintro e w1 ⟨rfl, h1⟩
    have H1 := Lib.hid (h1.alloc (.cells #[.int .u8 x.k, .int .i64 x.wd, .int .u64 x.ms] 58))
    clear h1 HC
    simp only [errT, if_false, Bool.false_eq_true]
    go_wp2_with fail
    go_ret2
    exact ⟨rfl, H1.out⟩
set_option maxRecDepth 100000 in
theorem size_nil (w : World) (i n : Int) : Calls Tryd.prog 26 #[.pointer none, .int .i64 i, .int .i64 n] w fun e w' => e = .returned (.tuple #[.int .i64 0, .int .i64 1]) ∧ Kept [] w w' := by
  have HC := Lib.hid (get_nil w i)
  unfold Ty.val Ty.zero at HC
  go_enter Tryd.func26, Tryd.ntmps26
  go_wp2_with fail
  refine HC.out.mono ?_
  rintro e w1 ⟨rfl, h1⟩
  have H1 := Lib.hid h1
  clear h1 HC
  go_wp2_with fail
  go_ret2
  exact ⟨rfl, H1.out.alloc _⟩
end
/-- The error of an Add. -/
def addE (l : List Ty) (x : Ty) : Int := if ¬ x.fit then 2 else if 64 ≤ l.length then 4 else 0
theorem fit_err {x : Ty} (h : x.fit) : Kd.err x.k x.wd x.ms 0 = 0 := by
  unfold Kd.err
  rw [if_neg (by
    rintro (h1 | h1 | h1)
    · exact h1 h
    · omega
    · omega), if_neg (by omega)]
theorem nofit_err {x : Ty} (h : ¬ x.fit) : Kd.err x.k x.wd x.ms 0 = 2 := by
  unfold Kd.err
  rw [if_pos (.inl h)]
def addL (l : List Ty) (x : Ty) : List Ty := if addE l x = 0 then l ++ [x] else l
def addN (l : List Ty) (x : Ty) : Int := if addE l x = 0 then (l.length : Int) + 1 else 0
/-- What an Add leaves. -/
def AddPost (w : World) (p : Nat) (A : Option Addr) (l : List Ty) (x : Ty) (e : Ending) (w' : World) : Prop :=
  ∃ A' c', e = .returned (.tuple #[.int .i64 (addN l x), .int .i64 (addE l x)]) ∧ Tab w' p A' c' (addL l x) ∧ Kept (p :: blk A) w w' ∧ ∀ g ∈ blk A', g ∈ blk A ∨ w.heap.size ≤ g
set_option maxRecDepth 100000 in
set_option maxHeartbeats 1000000 in
theorem add_ok {w : World} {p : Nat} {A : Option Addr} {c : Nat} {l : List Ty} (h : Tab w p A c l) (x : Ty) (hx : x.ok) :
    Calls Tryd.prog 27 #[.pointer (some ⟨p, 0, none⟩), x.val] w (AddPost w p A l x) := by
  have HCh := Lib.hid (fun y => Kd.check_ok x.k x.wd x.ms hx.1 hx.2 y)
  unfold Kd.typV at HCh
  have hk0 : Kept [] w (w.alloc (.cells #[.int .u8 (x.k : Int), .int .i64 x.wd, .int .u64 (x.ms : Int)] 58)) := (Kept.refl [] w).alloc _
  have hb0 : Has (w.alloc (.cells #[.int .u8 (x.k : Int), .int .i64 x.wd, .int .u64 (x.ms : Int)] 58)) w.heap.size 58 [.int .u8 (x.k : Int), .int .i64 x.wd, .int .u64 (x.ms : Int)] := Has.new w _ _
  have HCo := Lib.hid (fun y (k : Kept [] w y) => count_ok (h.keep0 k))
  have HT := Lib.hid h
  have hlen := h.len
  by_cases hf : x.fit
  · rw [fit_err hf] at HCh
    by_cases hl : 64 ≤ l.length
    · have e0 : addE l x = 4 := by unfold addE; rw [if_neg (by simpa using hf), if_pos hl]
      have HP : Hid (∀ y, Kept [] w y → AddPost w p A l x (.returned (.tuple #[.int .i64 0, .int .i64 4])) y) := Lib.hid fun y k => by
        refine ⟨A, c, ?_, ?_, k.none _, fun g hg => .inl hg⟩
        · unfold addN
          rw [e0, if_neg (by decide)]
        · unfold addL
          rw [e0, if_neg (by decide)]
          exact h.keep0 k
      have hl2 : (64 : Int) ≤ (l.length : Int) := by omega
      clear e0 hf h hx hl HT
      unfold Ty.val
      go_enter Tryd.func27, Tryd.ntmps27
      go_wp2_with fail
      refine (HCh.out _).mono ?_
      rintro e w1 ⟨rfl, hk1⟩
      have HK := Lib.hid (hk0.trans hk1)
      clear hk1 hk0 hb0 HCh
      go_wp2_with fail
      refine (HCo.out _ HK.out).mono ?_
      rintro e w2 ⟨rfl, hk2⟩
      have HK2 := Lib.hid (HK.out.trans hk2)
      clear hk2 HK HCo
      go_wp2_with fail
      go_ret2
      exact HP.out _ HK2.out
    · have e0 : addE l x = 0 := by unfold addE; rw [if_neg (by simpa using hf), if_neg hl]
      have HP : Hid (∀ y, Kept [] w y → Calls Tryd.prog 38 #[.pointer (some ⟨p, 0, none⟩), .agg #[.int .u8 (x.k : Int), .int .i64 x.wd, .int .u64 (x.ms : Int)]] y fun e w' => e = .returned (.int .i64 ((l.length : Int) + 1)) ∧ AddPost w p A l x (.returned (.tuple #[.int .i64 ((l.length : Int) + 1), .int .i64 0])) w') := Lib.hid fun y k => by
        refine (push_ok (h.keep0 k) x ⟨hx, hf⟩ (by omega)).mono ?_
        rintro e w' ⟨A', c', rfl, h1, h2, h3⟩
        refine ⟨rfl, A', c', ?_, ?_, (k.none _).trans h2, fun g hg => (h3 g hg).imp id fun h => Nat.le_trans k.more h⟩
        · unfold addN
          rw [e0, if_pos rfl]
        · unfold addL
          rw [e0, if_pos rfl]
          exact h1
      have hl2 : ¬ (64 : Int) ≤ (l.length : Int) := by omega
      clear e0 hf h hx hl HT
      unfold Ty.val
      go_enter Tryd.func27, Tryd.ntmps27
      go_wp2_with fail
      refine (HCh.out _).mono ?_
      rintro e w1 ⟨rfl, hk1⟩
      have HK := Lib.hid (hk0.trans hk1)
      have HB := Lib.hid (hb0.keep0 hk1)
      clear hk1 hk0 hb0 HCh
      go_wp2_with fail
      refine (HCo.out _ HK.out).mono ?_
      rintro e w2 ⟨rfl, hk2⟩
      have HK2 := Lib.hid (HK.out.trans hk2)
      obtain ⟨b0, b1, b2⟩ := cells3 (HB.out.keep0 hk2)
      clear hk2 HK HCo HB
      go_wp2_with fail
      go_region_with ((refine (HP.out _ HK2.out.drew).mono ?_; rintro e w3 ⟨rfl, hap⟩; have HAP := Lib.hid hap; clear hap))
      go_wp2_with fail
      go_ret2
      exact HAP.out
  · have e0 : addE l x = 2 := by unfold addE; rw [if_pos hf]
    rw [nofit_err hf] at HCh
    have HP : Hid (∀ y, Kept [] w y → AddPost w p A l x (.returned (.tuple #[.int .i64 0, .int .i64 2])) y) := Lib.hid fun y k => by
      refine ⟨A, c, ?_, ?_, k.none _, fun g hg => .inl hg⟩
      · unfold addN
        rw [e0, if_neg (by decide)]
      · unfold addL
        rw [e0, if_neg (by decide)]
        exact h.keep0 k
    clear e0 hf h hx HT HCo hlen
    unfold Ty.val
    go_enter Tryd.func27, Tryd.ntmps27
    go_wp2_with fail
    refine (HCh.out _).mono ?_
    rintro e w1 ⟨rfl, hk1⟩
    have HK := Lib.hid (hk0.trans hk1)
    clear hk1 hk0 hb0 HCh
    go_wp2_with fail
    go_ret2
    exact HP.out _ HK.out
set_option maxRecDepth 100000 in
theorem add_nil (w : World) (x : Ty) : Calls Tryd.prog 27 #[.pointer none, x.val] w fun e w' => e = .returned (.tuple #[.int .i64 0, .int .i64 1]) ∧ Kept [] w w' := by
  unfold Ty.val
  go_enter Tryd.func27, Tryd.ntmps27
  go_wp2_with fail
  go_ret2
  exact ⟨rfl, (Kept.refl [] w).alloc _⟩
end Go.Proofs.YtflcnpmampaamaaDoor.Tb
