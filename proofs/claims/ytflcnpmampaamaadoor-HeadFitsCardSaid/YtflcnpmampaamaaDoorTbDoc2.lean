/-
  The document's Get, Size, Same.
-/
import Derived.Test.YtflcnpmampaamaaDoorTbDoc
namespace Go.Proofs.YtflcnpmampaamaaDoor.Tb
open Go.RowKit Go.Proofs.YtflcnpmampaamaaDoor.Ar Go.Maps
set_option linter.unusedVariables false

section
variable {w : World} {A : Option Addr} {c : Nat} {l : List Ty}
set_option maxRecDepth 100000 in
set_option maxHeartbeats 1000000 in
theorem dget_ok (hS : Seen w A l) (hlen : l.length ≤ 100000) (i : Int) (hi0 : -9223372036854775808 ≤ i) (hi1 : i ≤ 9223372036854775807) :
    Calls Tryd.prog 40 #[.slice A l.length c, .int .i64 i] w fun e w' => e = .returned (.tuple #[(getT l i).val, .int .i64 (errT (hasT l i))]) ∧ Kept [] w w' := by
  have hb0 : Has (w.alloc (.cells #[.int .u8 0, .int .i64 0, .int .u64 0] 58)) w.heap.size 58 [.int .u8 0, .int .i64 0, .int .u64 0] := Has.new w _ _
  have hk0 := (Kept.refl [] w).alloc (.cells #[.int .u8 0, .int .i64 0, .int .u64 0] 58)
  unfold Ty.val
  by_cases h1 : i < 1
  · obtain ⟨e1, e2⟩ := hasT_no (l := l) (i := i) (by omega)
    rw [e1, e2]
    unfold Ty.zero errT
    clear e1 e2 hS
    go_enter Tryd.func40, Tryd.ntmps40
    go_wp2_with fail
    refine ret_ty0 rfl rfl hb0 rfl rfl ⟨rfl, hk0⟩
  · by_cases h2 : i > (l.length : Int)
    · obtain ⟨e1, e2⟩ := hasT_no (l := l) (i := i) (by omega)
      rw [e1, e2]
      unfold Ty.zero errT
      clear e1 e2 hS
      go_enter Tryd.func40, Tryd.ntmps40
      go_wp2_with fail
      refine ret_ty0 rfl rfl hb0 rfl rfl ⟨rfl, hk0⟩
    · obtain ⟨t, ht⟩ : ∃ t : Nat, i - 1 = (t : Int) := ⟨(i - 1).toNat, by omega⟩
      have htl : t < l.length := by omega
      obtain ⟨e1, e2⟩ := hasT_yes ht htl
      rw [e1, e2]
      unfold errT
      clear e1 e2
      obtain ⟨g, f, rfl, hg, hcells⟩ := hS.at t htl _ rfl
      generalize l.getD t Ty.zero = x at *
      obtain ⟨c0, c1, c2⟩ := hcells _ hk0
      obtain ⟨f0, f1, f2⟩ := free3 hb0
      obtain ⟨d0, d1, d2⟩ := cells3 hb0
      have HB := Lib.hid hb0
      have HK := Lib.hid hk0
      clear hcells hS hb0 hk0
      go_enter Tryd.func40, Tryd.ntmps40
      go_wp2_with fail
      (try simp only [Exit.inBlock, Exit.then])
      refine ret_ty0 rfl rfl (Has.new w 58 [.int .u8 (x.k : Int), .int .i64 x.wd, .int .u64 (x.ms : Int)]) rfl rfl ⟨rfl, (Kept.refl [] w).alloc _⟩
set_option maxRecDepth 100000 in
set_option maxHeartbeats 1000000 in
theorem dsize_ok (hS : Seen w A l) (hok : ∀ x ∈ l, x.ok ∧ x.fit) (hlen : l.length ≤ 100000) (i n : Int) (hi0 : -9223372036854775808 ≤ i) (hi1 : i ≤ 9223372036854775807) :
    Calls Tryd.prog 29 #[.slice A l.length c, .int .i64 i, .int .i64 n] w fun e w' => e = .returned (.tuple #[.int .i64 (sizeT l i n), .int .i64 (sizeE l i n)]) ∧ Kept [] w w' := by
  have HC := Lib.hid (dget_ok (c := c) hS hlen i hi0 hi1)
  have HS := Lib.hid (fun x => Kd.sizeDoc_ok (getT l i).k (getT l i).wd (getT l i).ms n (getT_ok hok i).2 x)
  clear hS hok
  unfold sizeT sizeE
  unfold Kd.typV at HS
  generalize hasT l i = b at *
  generalize getT l i = x at *
  unfold Ty.val at *
  generalize Kd.sizeR x.k x.wd x.ms n = s at *
  generalize Kd.err x.k x.wd x.ms n = er at *
  cases b with
  | true =>
    go_enter Tryd.func29, Tryd.ntmps29
    go_wp2_with fail
    refine HC.out.mono ?_
    rintro e w1 ⟨rfl, h1⟩
    have H1 := Lib.hid h1
    clear h1
    simp only [errT, if_true]
    go_wp2_with fail
    refine (HS.out _).mono ?_
    rintro e w2 ⟨rfl, h2⟩
    have H2 := Lib.hid ((H1.out.alloc _).trans h2)
    clear h2 HS HC
    go_wp2_with fail
    go_ret2
    exact ⟨rfl, H2.out⟩
  | false =>
    clear HS
    go_enter Tryd.func29, Tryd.ntmps29
    go_wp2_with fail
    refine HC.out.mono ?_
    rintro e w1 ⟨rfl, h1⟩
    have H1 := Lib.hid (h1.alloc (.cells #[.int .u8 x.k, .int .i64 x.wd, .int .u64 x.ms] 58))
    clear h1 HC
    simp only [errT, if_false, Bool.false_eq_true]
    go_wp2_with fail
    go_ret2
    exact ⟨rfl, H1.out⟩
end
end Go.Proofs.YtflcnpmampaamaaDoor.Tb
