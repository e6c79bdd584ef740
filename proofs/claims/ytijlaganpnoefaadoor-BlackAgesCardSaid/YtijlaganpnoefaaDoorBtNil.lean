/-
  The loops over the pieces of no vector; seek, Next and NextClear, whole.
-/
import Derived.Test.YtijlaganpnoefaaDoorBtSeek
namespace Go.Proofs.YtijlaganpnoefaaDoor.Bt
open Go.RowKit Go.Proofs.YtijlaganpnoefaaDoor.Ar Go.Proofs.YtijlaganpnoefaaDoor.Wd Go.Shelf Go.Sort
set_option linter.unusedVariables false
attribute [local go_sem] Oper.semAt_some

/-- Upwards from i to below 0: no round. -/
theorem up_none (n : Nat) (hn : 1 ≤ n) (bi be bb : Nat) (i : Nat) (w : World) (h1 : Has w bi 3 [.int .i64 (i : Int)]) (h2 : Has w be 3 [.int .i64 0]) :
    SeqStopsK Fence.wide n Tryd.prog 48 #[.pointer (some ⟨bi, 0, none⟩), .pointer (some ⟨be, 0, none⟩), .pointer (some ⟨bb, 0, none⟩)] (encs (nw := 0)) (Keeps (fun _ => True) [] 0) (fun xs => xs = []) (fun _ => False) 0 w := by
  intro l J Jx W hW hJ _ hY h0
  have ci := (h1.keep0 (Kept.ofBelow hW [])).cell 0
  have ce := (h2.keep0 (Kept.ofBelow hW [])).cell 0
  simp at ci ce
  have H0 := Lib.hid h0
  clear hJ hY h0
  refine callsIn_of_wp Tryd.func48 rfl trivial ?_ rfl
  simp only [Tryd.ntmps48, List.size_toArray, List.length_cons, List.length_nil, Nat.reduceAdd, Nat.reduceSub, Array.replicate_succ, Array.replicate_zero, List.push_toArray, List.append_toArray, List.nil_append, List.cons_append]
  have hlt : ¬ (i : Int) < 0 := by omega
  gi_wp2
  gi_loopw [5] (fun v wr => v = .int .i64 (i : Int) ∧ W = wr) (fun v _ => 0)
  case atStart => exact ⟨rfl, rfl⟩
  case round =>
    obtain ⟨rfl, rfl⟩ := hrel
    gi_wp2_with (fail)
    go_end0
    exact ⟨⟨_, rfl⟩, .inl ⟨[], rfl, H0.out⟩⟩
/-- Downwards from a place below 0: no round. -/
theorem down_none (n : Nat) (hn : 1 ≤ n) (bi bb : Nat) (i : Int) (hi : i < 0) (w : World) (h1 : Has w bi 3 [.int .i64 i]) :
    SeqStopsK Fence.wide n Tryd.prog 55 #[.pointer (some ⟨bi, 0, none⟩), .pointer (some ⟨bb, 0, none⟩)] (encs (nw := 0)) (Keeps (fun _ => True) [] 0) (fun xs => xs = []) (fun _ => False) 0 w := by
  intro l J Jx W hW hJ _ hY h0
  have ci := (h1.keep0 (Kept.ofBelow hW [])).cell 0
  simp at ci
  have H0 := Lib.hid h0
  clear hJ hY h0
  refine callsIn_of_wp Tryd.func55 rfl trivial ?_ rfl
  simp only [Tryd.ntmps55, List.size_toArray, List.length_cons, List.length_nil, Nat.reduceAdd, Nat.reduceSub, Array.replicate_succ, Array.replicate_zero, List.push_toArray, List.append_toArray, List.nil_append, List.cons_append]
  gi_wp2
  gi_loopw [4] (fun v wr => v = .int .i64 i ∧ W = wr) (fun v _ => 0)
  case atStart => exact ⟨rfl, rfl⟩
  case round =>
    obtain ⟨rfl, rfl⟩ := hrel
    gi_wp2_with (fail)
    go_end0
    exact ⟨⟨_, rfl⟩, .inl ⟨[], rfl, H0.out⟩⟩

set_option maxRecDepth 100000 in
set_option maxHeartbeats 4000000 in
theorem seek_nil (w : World) (i : Int) (i1 : -9223372036854775808 ≤ i) (i2 : i ≤ 9223372036854775807) (m : Nat) :
    Calls Tryd.prog 52 #[.pointer none, .int .i64 i, .int .u64 m] w fun e w' => e = .returned (.tuple #[.int .i64 0, .bool false]) ∧ Kept [] w w' := by
  refine (callsIn_wide (n := 5)).1 ?_
  refine callsIn_of_wp_marks Tryd.func52 rfl trivial ?_ rfl
  simp only [Tryd.ntmps52, List.size_toArray, List.length_cons, List.length_nil, Nat.reduceAdd, Nat.reduceSub, Array.replicate_succ, Array.replicate_zero, List.push_toArray, List.append_toArray, List.nil_append, List.cons_append]
  gi_wp2_with (fail)
  have hk3 : Kept [] w (((w.alloc (.cells #[.int .u64 m] 78)).alloc (.cells #[.int .i64 0] 3)).alloc (.cells #[.bool false] 4)) := (((Kept.refl [] w).alloc _).alloc _).alloc _
  have hc6 := (Has.new (w.alloc (.cells #[.int .u64 (m : Int)] 78)) 3 [.int .i64 0]).alloc (.cells #[.bool false] 4)
  have hc7 := Has.new ((w.alloc (.cells #[.int .u64 (m : Int)] 78)).alloc (.cells #[.int .i64 0] 3)) 4 [.bool false]
  rw [World.size_alloc] at hc6
  rw [World.size_alloc, World.size_alloc] at hc7
  have hz3 : (((w.alloc (.cells #[.int .u64 m] 78)).alloc (.cells #[.int .i64 0] 3)).alloc (.cells #[.bool false] 4)).heap.size = w.heap.size + 1 + 1 + 1 := by simp
  obtain ⟨w3, hw3⟩ : ∃ w3, (((w.alloc (.cells #[.int .u64 m] 78)).alloc (.cells #[.int .i64 0] 3)).alloc (.cells #[.bool false] 4)) = w3 := ⟨_, rfl⟩
  have hw3' : (((w.alloc (.cells [.int .u64 (m : Int)].toArray 78)).alloc (.cells #[.int .i64 0] 3)).alloc (.cells #[.bool false] 4)) = w3 := hw3
  rw [hw3] at hk3 hz3 ⊢
  have hc6' : Has w3 (w.heap.size + 1) 3 [.int .i64 0] := by rw [← hw3]; exact hc6
  have hc7' : Has w3 (w.heap.size + 1 + 1) 4 [.bool false] := by rw [← hw3]; exact hc7
  clear hc6 hc7 hw3 hw3'
  have HL := Lib.hid (len_nil w3)
  have Hz3 := Lib.hid hz3
  have Hk3 := Lib.hid hk3
  have Hc6 := Lib.hid hc6'
  have Hc7 := Lib.hid hc7'
  clear hz3 hk3 hc6' hc7'
  refine ⟨trivial, (callsIn_wide.2 HL.out).mono ?_⟩
  rintro e w' ⟨rfl, rfl⟩
  have Emax := Lib.hid (show max i 0 = ((i.toNat : Nat) : Int) by omega)
  gi_wp2_with (fail)
  rw [Emax.out]
  refine ⟨trivial, (callsIn_wide.2 (up_ok 0 _ _ _ _)).mono ?_⟩
  rintro e0 w0 ⟨rfl, hw0⟩
  have hk0 : Kept [] w3 w0 := by rw [hw0]; exact (((Kept.refl [] w3).alloc _).alloc _).alloc _
  have h1 := (Has.new (w3.alloc (.cells #[.pointer none] 47)) 3 [.int .i64 ((i.toNat : Nat) : Int)]).alloc (.cells #[.int .i64 0] 3)
  have h2 := Has.new ((w3.alloc (.cells #[.pointer none] 47)).alloc (.cells #[.int .i64 ((i.toNat : Nat) : Int)] 3)) 3 [.int .i64 0]
  rw [World.size_alloc, Hz3.out] at h1
  rw [World.size_alloc, World.size_alloc, Hz3.out] at h2
  have h1' : Has w0 (w.heap.size + 1 + 1 + 1 + 1) 3 [.int .i64 ((i.toNat : Nat) : Int)] := by rw [hw0]; exact h1
  have h2' : Has w0 (w.heap.size + 1 + 1 + 1 + 2) 3 [.int .i64 0] := by rw [hw0]; exact h2
  clear hw0 h1 h2
  rw [Hz3.out]
  have H1 := Lib.hid h1'
  have H2 := Lib.hid h2'
  have Hk0 := Lib.hid hk0
  clear hk0 h1' h2'
  gi_wp2_with (fail)
  have Hkw := Lib.hid (Hk3.out.trans Hk0.out)
  refine wpIn_rangeFunc_ownH rfl (by decide) (gf := 48) (lb := #[.pointer (some ⟨w.heap.size + 1 + 1 + 1 + 1, 0, none⟩), .pointer (some ⟨w.heap.size + 1 + 1 + 1 + 2, 0, none⟩), .pointer (some ⟨w.heap.size + 1 + 1 + 1, 0, none⟩)]) rfl trivial (enters_of Tryd.func48 (by kernel_rfl) rfl)
    (up_none 4 (by decide) (w.heap.size + 1 + 1 + 1 + 1) (w.heap.size + 1 + 1 + 1 + 2) (w.heap.size + 1 + 1 + 1) i.toNat w0 H1.out H2.out)
    (fun h k => h.trans k) (fun W l o o' _ h hc _ => Keeps.put W l o o' h hc) (Below.refl _ _) (fun _ => rfl)
    (fun pre W => Has W (w.heap.size + 1) 3 [.int .i64 0] ∧ Has W (w.heap.size + 1 + 1) 4 [.bool false] ∧ Kept [] w W)
    (fun _ _ _ => False)
    (OwnFrom.and own_has (OwnFrom.and own_has (own_kept Hkw.out.more)))
    (fun _ _ _ _ _ hs _ _ => hs)
    ⟨Hc6.out.keep0 Hk0.out, Hc7.out.keep0 Hk0.out, Hkw.out⟩
    (fun x a' W => False) (fun _ _ _ _ _ _ hs _ _ => hs)
    ?assign ?body ?done ?stop
  case assign => exact fun l pre x => absurd x.2.2.2.1 (by omega)
  case body => exact fun l pre x => absurd x.2.2.2.1 (by omega)
  case done =>
    rintro D xs W hD _ ⟨h6, h7, hk⟩ hK
    have c6 := h6.cell 0
    have f6 := h6.free 0
    have c7 := h7.cell 0
    have f7 := h7.free 0
    simp at c6 c7
    have HKd := Lib.hid hK
    have Hk := Lib.hid hk
    have H6 := Lib.hid h6
    have H7 := Lib.hid h7
    clear hK hk h6 h7
    gi_wp2
    have hD1 : w.heap.size + 1 ≠ D := by have := Hc7.out.lt; have := Hk0.out.more; omega
    have hD2 : w.heap.size + 1 + 1 ≠ D := by have := Hc7.out.lt; have := Hk0.out.more; omega
    have hK2 : ((W.setCell ⟨w.heap.size + 1, 0, none⟩ (.int .i64 0)).setCell ⟨w.heap.size + 1 + 1, 0, none⟩ (.bool false)).heap[D]? = some (.deferred (some [])) := by
      rw [put_other hD2, put_other hD1]
      exact HKd.out
    have h6 := has_put ((H6.out.put 0 (.int .i64 0)).beside ⟨w.heap.size + 1 + 1, 0, none⟩ (by simp) (.bool false)) D _ (.deferred none) hK2 rfl
    have h7 := has_put ((H7.out.beside ⟨w.heap.size + 1, 0, none⟩ (by simp) (.int .i64 0)).put 0 (.bool false)) D _ (.deferred none) hK2 rfl
    have d6 := h6.cell 0
    have d7 := h7.cell 0
    simp at d6 d7
    refine ⟨by simp, .inl ⟨_, _, rfl, run_takeDeferred hK2, ?_⟩⟩
    refine ⟨.tuple #[.int .i64 0, .bool false], ?_, ?_, kept_put (((Hk.out).setCell _ _ (.inr (by first | (simp; done) | (simp; omega)))).setCell _ _ (.inr (by first | (simp; done) | (simp; omega)))) D _ (Nat.le_trans Hkw.out.more hD)⟩
    · simp [results, Tryd.results52, go_sem, d6, d7]
    · rfl
  case stop =>
    rintro D c pre W _ h _
    exact h.elim

/-- The first place from i on whose bit is st. -/
def nextO (bs : List Bool) (i : Int) (st : Bool) : Option Nat := nextV (fun j => bit bs j == st) (bs.length - i.toNat) i.toNat
theorem next_ok (bs : List Bool) (p q : Nat) (w : World) (hv : Bv w p q bs) (hT : Table w) (i : Int) (i1 : -9223372036854775808 ≤ i) (i2 : i ≤ 9223372036854775807) :
    Calls Tryd.prog 42 #[.pointer (some ⟨p, 0, none⟩), .int .i64 i] w fun e w' => e = .returned (.tuple #[.int .i64 (atI (nextO bs i true)), .bool (nextO bs i true).isSome]) ∧ Kept [] w w' := by
  have h := Lib.hid (seek_yes bs p q w hv hT i i1 i2 0 (.inl rfl) (nextO bs i true) rfl)
  clear hv hT
  generalize nextO bs i true = o at *
  go_enter Tryd.func42, Tryd.ntmps42
  go_wp2_with fail
  refine (h.out).mono ?_
  rintro e w' ⟨rfl, hk⟩
  go_wp2_with fail
  go_ret2
  exact ⟨rfl, hk⟩
theorem nextClear_ok (bs : List Bool) (p q : Nat) (w : World) (hv : Bv w p q bs) (hT : Table w) (i : Int) (i1 : -9223372036854775808 ≤ i) (i2 : i ≤ 9223372036854775807) :
    Calls Tryd.prog 53 #[.pointer (some ⟨p, 0, none⟩), .int .i64 i] w fun e w' => e = .returned (.tuple #[.int .i64 (atI (nextO bs i false)), .bool (nextO bs i false).isSome]) ∧ Kept [] w w' := by
  have h := Lib.hid (seek_yes bs p q w hv hT i i1 i2 18446744073709551615 (.inr rfl) (nextO bs i false) rfl)
  clear hv hT
  generalize nextO bs i false = o at *
  go_enter Tryd.func53, Tryd.ntmps53
  go_wp2_with fail
  refine (h.out).mono ?_
  rintro e w' ⟨rfl, hk⟩
  go_wp2_with fail
  go_ret2
  exact ⟨rfl, hk⟩
theorem next_nil (w : World) (i : Int) (i1 : -9223372036854775808 ≤ i) (i2 : i ≤ 9223372036854775807) :
    Calls Tryd.prog 42 #[.pointer none, .int .i64 i] w fun e w' => e = .returned (.tuple #[.int .i64 0, .bool false]) ∧ Kept [] w w' := by
  have h := Lib.hid (seek_nil w i i1 i2 0)
  go_enter Tryd.func42, Tryd.ntmps42
  go_wp2_with fail
  refine (h.out).mono ?_
  rintro e w' ⟨rfl, hk⟩
  go_wp2_with fail
  go_ret2
  exact ⟨rfl, hk⟩
theorem nextClear_nil (w : World) (i : Int) (i1 : -9223372036854775808 ≤ i) (i2 : i ≤ 9223372036854775807) :
    Calls Tryd.prog 53 #[.pointer none, .int .i64 i] w fun e w' => e = .returned (.tuple #[.int .i64 0, .bool false]) ∧ Kept [] w w' := by
  have h := Lib.hid (seek_nil w i i1 i2 18446744073709551615)
  go_enter Tryd.func53, Tryd.ntmps53
  go_wp2_with fail
  refine (h.out).mono ?_
  rintro e w' ⟨rfl, hk⟩
  go_wp2_with fail
  go_ret2
  exact ⟨rfl, hk⟩
end Go.Proofs.YtijlaganpnoefaaDoor.Bt
