/-
  The contracts of Of and Has.
-/
import Derived.Test.YtbgonppichdhiaaRnList
import Derived.Test.YtbgonppichdhiaaRnJoin
namespace Go.Proofs.Ytbgonppichdhiaa.Rn
open Go.RowKit Go.Proofs.Ytbgonppichdhiaa.Ar Go.Proofs.Ytbgonppichdhiaa.Bt Go.Proofs.Ytbgonppichdhiaa.Lk Go.Sort
set_option linter.unusedVariables false

/-- What Of answers. -/
def ofR (o : Option R) : Value := match o with | none => runV 0 0 | some r => runV r.1 r.2
theorem of_nil (w : World) (i : Int) :
    Calls Try.prog 14 #[.pointer none, .int .i64 i] w fun e w' => e = .returned (.tuple #[runV 0 0, .bool false]) ∧ Kept [] w w' := by
  go_enter Try.func14, Try.ntmps14
  go_wp2_with fail
  exact bodyPost_ret (v := .tuple #[runV 0 0, .bool false]) (by simp [results, Try.results14, go_sem, runV]) rfl ⟨rfl, (Kept.refl [] w).alloc _⟩
theorem rs_parts {w : World} {p : Nat} {ns : List Nd} (h : Rs w p ns) (i : Int) : Ahead w p (preN ns i) (ptr (postN ns i)) ∧ Seg w none (postN ns i) ∧ ((preN ns i ++ postN ns i).map Nd.b).Nodup := rs_iff.1 (by rw [preN_postN]; exact h)
/-- The cells of the link ahead, in a later world. -/
theorem rs_next {w : World} {p : Nat} {ns : List Nd} (h : Rs w p ns) (i : Int) : w.cell? ⟨lastB p (preN ns i), 2, none⟩ = some (.pointer (ptr (postN ns i))) := by
  obtain ⟨t, a, l, hh, _⟩ := (rs_parts h i).1.last
  exact hh.cell 2

set_option maxHeartbeats 1000000 in
theorem of_ok (w : World) (p : Nat) (ns : List Nd) (h : Rs w p ns) (hf : Fine 0 (runsIn ns)) (i : Int) :
    Calls Try.prog 14 #[.pointer (some ⟨p, 0, none⟩), .int .i64 i] w fun e w' => e = .returned (.tuple #[ofR (ofO (runsIn ns) i), .bool (ofO (runsIn ns) i).isSome]) ∧ Kept [] w w' := by
  have hka : ∀ o, Kept [] w (w.alloc o) := fun o => (Kept.refl [] w).alloc o
  have HBl := Lib.hid (fun x (hk : Kept [] w x) => below_ok x p ns (h.keep0 hk) (fun n hn => (fine_mem hf n hn).1) i)
  have Hn := Lib.hid (fun x (hk : Kept [] w x) => rs_next (h.keep0 hk) i)
  have Hs := Lib.hid (fun x (hk : Kept [] w x) => (rs_parts (h.keep0 hk) i).2.1)
  have ho : ofO (runsIn ns) i = match postN ns i with | [] => none | q :: _ => if ((q.a : Nat) : Int) ≤ i then some q.r else none := by
    unfold ofO
    rw [← postN_runs]
    cases postN ns i <;> rfl
  rw [ho]
  clear ho hf h
  generalize lastB p (preN ns i) = lb at *
  cases hq : postN ns i with
  | nil =>
    rw [hq] at Hn
    clear hq Hs
    show Calls _ _ _ _ fun e w' => e = .returned (.tuple #[runV 0 0, .bool false]) ∧ Kept [] w w'
    go_enter Try.func14, Try.ntmps14
    go_wp2_with fail
    refine (HBl.out _ (hka _)).mono ?_
    rintro e w1 ⟨rfl, hk1⟩
    have hkw := (hka (.cells #[.int .i64 0, .int .i64 0] 29)).trans hk1
    have c2 := Hn.out w1 hkw
    have h4 : Has w1 w.heap.size 29 [.int .i64 0, .int .i64 0] := (Has.new w 29 [.int .i64 0, .int .i64 0]).keep0 hk1
    have c4 := h4.cell 0
    have c4' := h4.cell 1
    have f4 := h4.free 0
    have f4' := h4.free 1
    simp [ptr] at c2 c4 c4'
    have Hkw := Lib.hid hkw
    have H4 := Lib.hid h4
    clear hk1 hkw HBl Hn h4
    go_wp2_with fail
    exact bodyPost_ret (v := .tuple #[runV 0 0, .bool false]) (by simp [results, Try.results14, go_sem, runV, c4, c4']) rfl ⟨rfl, (Hkw.out.setCell _ _ (.inr (Nat.le_refl _))).setCell _ _ (.inr (Nat.le_refl _))⟩
  | cons q Q =>
    rw [hq] at Hn Hs
    obtain ⟨b, ra, rl⟩ := q
    clear hq
    by_cases hc : ((ra : Nat) : Int) ≤ i
    · show Calls _ _ _ _ fun e w' => e = .returned (.tuple #[ofR (if ((ra : Nat) : Int) ≤ i then some (ra, rl) else none), .bool (if ((ra : Nat) : Int) ≤ i then some (ra, rl) else none).isSome]) ∧ Kept [] w w'
      rw [if_pos hc]
      show Calls _ _ _ _ fun e w' => e = .returned (.tuple #[runV (ra : Nat) (rl : Nat), .bool true]) ∧ Kept [] w w'
      go_enter Try.func14, Try.ntmps14
      go_wp2_with fail
      refine (HBl.out _ (hka _)).mono ?_
      rintro e w1 ⟨rfl, hk1⟩
      have hkw := (hka (.cells #[.int .i64 0, .int .i64 0] 29)).trans hk1
      have c2 := Hn.out w1 hkw
      have hs := Hs.out w1 hkw
      rw [Seg.cons] at hs
      have b0 := hs.1.cell 0
      have b1 := hs.1.cell 1
      have h4 : Has w1 w.heap.size 29 [.int .i64 0, .int .i64 0] := (Has.new w 29 [.int .i64 0, .int .i64 0]).keep0 hk1
      have c4 := h4.cell 0
      have c4' := h4.cell 1
      have f4 := h4.free 0
      have f4' := h4.free 1
      simp [ptr, linkV] at c2 c4 c4' b0 b1
      have Hkw := Lib.hid hkw
      clear hk1 hkw HBl Hn h4 hs Hs
      go_wp2_with fail
      exact bodyPost_ret (v := .tuple #[runV (ra : Nat) (rl : Nat), .bool true]) (by simp [results, Try.results14, go_sem, runV, c4, c4']) rfl ⟨rfl, (Hkw.out.setCell _ _ (.inr (Nat.le_refl _))).setCell _ _ (.inr (Nat.le_refl _))⟩
    · show Calls _ _ _ _ fun e w' => e = .returned (.tuple #[ofR (if ((ra : Nat) : Int) ≤ i then some (ra, rl) else none), .bool (if ((ra : Nat) : Int) ≤ i then some (ra, rl) else none).isSome]) ∧ Kept [] w w'
      rw [if_neg hc]
      show Calls _ _ _ _ fun e w' => e = .returned (.tuple #[runV 0 0, .bool false]) ∧ Kept [] w w'
      go_enter Try.func14, Try.ntmps14
      go_wp2_with fail
      refine (HBl.out _ (hka _)).mono ?_
      rintro e w1 ⟨rfl, hk1⟩
      have hkw := (hka (.cells #[.int .i64 0, .int .i64 0] 29)).trans hk1
      have c2 := Hn.out w1 hkw
      have hs := Hs.out w1 hkw
      rw [Seg.cons] at hs
      have b0 := hs.1.cell 0
      have h4 : Has w1 w.heap.size 29 [.int .i64 0, .int .i64 0] := (Has.new w 29 [.int .i64 0, .int .i64 0]).keep0 hk1
      have c4 := h4.cell 0
      have c4' := h4.cell 1
      have f4 := h4.free 0
      have f4' := h4.free 1
      simp [ptr, linkV] at c2 c4 c4' b0
      have Hkw := Lib.hid hkw
      clear hk1 hkw HBl Hn h4 hs Hs
      go_wp2_with fail
      exact bodyPost_ret (v := .tuple #[runV 0 0, .bool false]) (by simp [results, Try.results14, go_sem, runV, c4, c4']) rfl ⟨rfl, (Hkw.out.setCell _ _ (.inr (Nat.le_refl _))).setCell _ _ (.inr (Nat.le_refl _))⟩
theorem has_nil_ok (w : World) (i : Int) :
    Calls Try.prog 23 #[.pointer none, .int .i64 i] w fun e w' => e = .returned (.bool false) ∧ Kept [] w w' := by
  have HO := Lib.hid (of_nil w i)
  unfold runV at HO
  go_enter Try.func23, Try.ntmps23
  go_wp2_with fail
  refine HO.out.mono ?_
  rintro e w1 ⟨rfl, hk⟩
  have Hk := Lib.hid hk
  clear hk
  go_wp2_with fail
  go_ret
  exact ⟨rfl, Hk.out.alloc _⟩
theorem has_ok (w : World) (p : Nat) (ns : List Nd) (h : Rs w p ns) (hf : Fine 0 (runsIn ns)) (i : Int) :
    Calls Try.prog 23 #[.pointer (some ⟨p, 0, none⟩), .int .i64 i] w fun e w' => e = .returned (.bool (hasI (runsIn ns) i)) ∧ Kept [] w w' := by
  have HO := Lib.hid (of_ok w p ns h hf i)
  unfold hasI
  clear h hf
  obtain ⟨x, y, hxy⟩ : ∃ x y, ofR (ofO (runsIn ns) i) = .agg #[.int .i64 x, .int .i64 y] := by
    cases ofO (runsIn ns) i with
    | none => exact ⟨0, 0, rfl⟩
    | some r => exact ⟨_, _, rfl⟩
  rw [hxy] at HO
  generalize (ofO (runsIn ns) i).isSome = bb at *
  clear hxy
  go_enter Try.func23, Try.ntmps23
  go_wp2_with fail
  refine HO.out.mono ?_
  rintro e w1 ⟨rfl, hk⟩
  have Hk := Lib.hid hk
  clear hk
  go_wp2_with fail
  go_ret
  exact ⟨rfl, Hk.out.alloc _⟩
end Go.Proofs.Ytbgonppichdhiaa.Rn
