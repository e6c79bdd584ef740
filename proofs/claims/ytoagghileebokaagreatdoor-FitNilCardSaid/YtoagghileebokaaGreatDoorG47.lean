/-
  Several texts in one: FtHits, BkOwnCtr.
-/
import Derived.Test.YtoagghileebokaaGreatDoorG38
import Derived.Test.YtoagghileebokaaGreatDoorG04
import Derived.Laws.Rows
import Derived.Test.YtoagghileebokaaGreatDoorG46
import Derived.Test.YtoagghileebokaaGreatDoorG37
import Derived.Test.YtoagghileebokaaGreatDoorG41
/-
  Stage 13, fit: the laws' hits: a list of so many granules, some of which are black.
-/
namespace Go.Proofs.YtoagghileebokaaGreatDoor.Ft
open Go.RowKit Go.Proofs.YtoagghileebokaaGreatDoor.Ar
open Go.Proofs.YtoagghileebokaaGreatDoor.Bk (Pb I64 hitE hitL inAll hitL_length)
set_option linter.unusedVariables false

def bools (bs : List Bool) : List Value := bs.map Value.bool
theorem bools_get (bs : List Bool) (i : Nat) (h : i < bs.length) : (bools bs)[i]? = some (.bool (bs.getD i false)) := by
  unfold bools
  rw [List.getElem?_map, List.getElem?_eq_getElem h]
  simp [List.getD, List.getElem?_eq_getElem h]
theorem bools_set (bs : List Bool) (i : Nat) (v : Bool) : (bools bs).set i (.bool v) = bools (bs.set i v) := by
  unfold bools
  rw [List.map_set]
theorem info_bool : (Tryz.prog.info? 4).map (fun i => (i.zero, i.size, i.bytes)) = some (some (.bool false), 1, 1) := by kernel_rfl
theorem made_bools (c : Nat) : (madeCells (Value.bool false).cells c) = (bools (List.replicate c false)).toArray := by
  apply Array.ext
  · simp [madeCells, bools]
  · intro i h1 h2
    simp [madeCells, bools, Value.cells, Nat.mod_one]
theorem run_make_bools (c : Nat) (hc : c ≤ 65536) (w : World) :
    (Instr.makeSlice 32 (.int .i64 (c : Int)) (.int .i64 (c : Int))).run Tryz.prog w = .ok (.slice (some ⟨w.heap.size, 0, none⟩) c c) (w.alloc (.cells (bools (List.replicate c false)).toArray 4)) := by
  obtain ⟨i0, hi, hz0, hz1, hz2⟩ := info_parts info_bool
  have h := run_make (P := Tryz.prog) w 32 4 i0 (.bool false) Tryz.underlying32 hi hz0 .i64 .i64 c c (by omega) (by omega) (by rw [hz2]; omega) (by omega)
  rw [Int.toNat_natCast, hz1, Nat.mul_one, made_bools] at h
  exact h
/-- The list, and the row beside it. -/
structure Hits (w x y : World) (p : Nat) (T : List Nat) (ls : List Int) (q n : Nat) : Prop where
  lst : Pb w y p T ls
  len : ls.length = n
  row : ∃ bs, bs.length = n ∧ Has y q 4 (bools bs)
  nq : q ∉ T
  fq : x.heap.size ≤ q
  fresh : ∀ i ∈ T, x.heap.size ≤ i
  kept : Kept [] x y
set_option maxRecDepth 100000 in
set_option maxHeartbeats 8000000 in
theorem hits_ok {w x : World} (hw : Kept [] w x) (n : Nat) (hn1 : 1 ≤ n) (hn : n ≤ 65536) {A : Option Addr} {cap : Nat} (gs : List Int) (hS : Ir.Seen x A gs) (hI : ∀ g ∈ gs, I64 g) (hl : gs.length ≤ 1000000) :
    Calls Tryz.prog 25 #[.int .i64 (n : Int), .slice A gs.length cap] x fun e y => ∃ p T ls v, e = .returned (.tuple #[.pointer (some ⟨p, 0, none⟩), v]) ∧ Pb w y p T ls ∧ ls.length = n ∧ (∀ i ∈ T, x.heap.size ≤ i) ∧ Kept [] x y := by
  have HN := Lib.hid (Bk.pb_new (w := w) (x := x) n hw hn)
  have HW := Lib.hid hw
  have HS := Lib.hid hS
  have HI := Lib.hid hI
  have hmk := run_make_bools n hn
  clear hw hS hI
  go_enter Tryz.func25, Tryz.ntmps25
  go_wp2_with fail
  refine HN.out.mono ?_
  rintro e x1 ⟨p, T, rfl, hp, k1, hf⟩
  have hlt := (fun i hi => (hp.fresh i hi).2)
  have k2 : Kept [] x1 (x1.alloc (.cells (bools (List.replicate n false)).toArray 4)) := (Kept.refl [] x1).alloc _
  have H0 : Hid (∃ T ls, Hits w x (x1.alloc (.cells (bools (List.replicate n false)).toArray 4)) p T ls x1.heap.size n) := Lib.hid ⟨T, _, hp.keep0 k2, List.length_replicate, ⟨_, List.length_replicate, Has.new x1 4 (bools (List.replicate n false))⟩, fun hm => by have := hlt _ hm; omega, k1.more, hf, k1.trans k2⟩
  clear hp k1 hf hlt k2 HN
  go_wp2_with fail
  generalize x1.alloc (.cells (bools (List.replicate n false)).toArray 4) = x2 at *
  generalize x1.heap.size = q at *
  clear hmk
  go_loopw [9] (fun t wr => ∃ j : Nat, t = .int .i64 (j : Int) ∧ j ≤ gs.length ∧ Hid (∃ T ls, Hits w x wr p T ls q n)) (fun t _ => gs.length - (intOf t).toNat)
  case atStart => exact ⟨0, rfl, Nat.zero_le _, H0⟩
  case round =>
    clear H0
    obtain ⟨j, rfl, hj, hr⟩ := hrel
    by_cases hlt : j < gs.length
    · obtain ⟨T, ls, hh⟩ := hr.out
      obtain ⟨g0, f0, rfl, hc⟩ := (HS.out.keep0 hh.kept).cells (by intro e; simp [e] at hlt)
      have ct := hc j hlt
      have hand : bits .and .i64 (gs.getD j 0) 1048575 = gs.getD j 0 % 1048576 := Hd.and_mask (gs.getD j 0) 1048575 20 (by decide) (by decide) (by decide)
      have ha : 0 ≤ gs.getD j 0 % 1048576 ∧ gs.getD j 0 % 1048576 < 1048576 := by omega
      generalize gs.getD j 0 = g at *
      obtain ⟨a, hae⟩ := Int.eq_ofNat_of_zero_le ha.1
      rw [hae] at hand ha
      obtain ⟨m, hm, hmn⟩ : ∃ m : Nat, (a : Int) % (n : Int) = (m : Int) ∧ m < n := ⟨a % n, (Int.natCast_emod a n).symm, Nat.mod_lt _ hn1⟩
      have hn0 : ((n : Int) == 0) = false := by rw [beq_eq_false_iff_ne]; omega
      have kx : Kept [] wr (wr.alloc (.cells #[.int .i64 (m : Int)] 3)) := (Kept.refl _ _).alloc _
      have hTl := fun i hi => (hh.lst.fresh i hi).2
      have hE : hitE ls.length [(m : Int)] = 0 := by
        rw [hh.len]
        unfold Bk.hitE Bk.inAll
        rw [if_pos]
        simp only [List.all_cons, List.all_nil, Bool.and_true, decide_eq_true_iff]
        omega
      have HHit := Lib.hid (Bk.pb_hit (A := some ⟨wr.heap.size, 0, none⟩) (c := 1) [(m : Int)] (hh.lst.keep0 kx) (fun y k => by
        have h0 : Has y wr.heap.size 3 [.int .i64 (m : Int)] := (Has.new wr 3 [.int .i64 (m : Int)]).kept k (fun hi => by have := hTl _ hi; omega)
        exact Ir.Row.seen (l := [(m : Int)]) h0) (by simp) (fun g hg => by rw [List.mem_singleton.1 hg]; unfold Bk.I64; omega))
      rw [hE] at HHit
      have HH := Lib.hid hh
      have KX := Lib.hid kx
      have hsz : (wr.alloc (.cells #[.int .i64 (m : Int)] 3)).heap.size = wr.heap.size + 1 := by simp
      clear hc hae hh hr kx hTl hE
      go_wp2_with fail
      refine HHit.out.mono ?_
      rintro e y ⟨rfl, T', hp', k', hT'⟩
      obtain ⟨bs, hbl, hrow⟩ := HH.out.row
      have hqlt := hrow.lt
      have hq' : q ∉ T' := fun hi => by
        rcases hT' q hi with h | h
        · exact HH.out.nq h
        · omega
      have hrow2 := (hrow.keep0 KX.out).kept k' HH.out.nq
      have cq := hrow2.cell m
      rw [bools_get bs m (by omega)] at cq
      have fq := hrow2.free m
      have hfr := fun i hi => (hp'.fresh i hi).1
      have hqw : w.heap.size ≤ q := Nat.le_trans HW.out.more HH.out.fq
      have HN : Hid (∃ T ls, Hits w x (y.setCell ⟨q, m, none⟩ (.bool true)) p T ls q n) := Lib.hid ⟨T', _, hp'.kept (S := [q]) ((Kept.refl _ _).setCell _ _ (.inl (by simp))) (fun i hi hm => hq' (by rw [← List.mem_singleton.1 hm]; exact hi)) (fun i hi => by rw [List.mem_singleton.1 hi]; exact hqw),
        (Bk.hitL_length _ _).trans HH.out.len, ⟨bs.set m true, by rw [List.length_set]; exact hbl, by rw [← bools_set]; exact hrow2.put m (.bool true)⟩, hq', HH.out.fq, (fun i hi => by
          rcases hT' i hi with h | h
          · exact HH.out.fresh i h
          · have := HH.out.kept.more
            omega), ((HH.out.kept.trans KX.out).forget k' HH.out.fresh).forget ((Kept.refl [q] y).setCell _ _ (.inl (by simp))) (fun i hi => by rw [List.mem_singleton.1 hi]; exact HH.out.fq)⟩
      clear hp' k' hT' hrow hrow2 hq' hfr hbl hqlt HHit HH KX ct hsz
      go_wp2_with fail
      go_roundw
      case rel => exact ⟨j + 1, by go_num, by omega, HN⟩
      case measure => simp [intOf] <;> omega
    · obtain rfl : j = gs.length := by omega
      obtain ⟨T, ls, hh⟩ := hr.out
      have HH := Lib.hid hh
      clear hh hr
      go_wp2_with fail
      go_ret2
      exact ⟨p, T, ls, _, rfl, HH.out.lst, HH.out.len, HH.out.fresh, HH.out.kept⟩
end Go.Proofs.YtoagghileebokaaGreatDoor.Ft

/-
  Stage 12, black: the program's list keeps all contracts.
-/
namespace Go.Proofs.YtoagghileebokaaGreatDoor.Bk
open Go.RowKit Go.Proofs.YtoagghileebokaaGreatDoor.Ar
set_option linter.unusedVariables false
section
variable {x : World}
theorem all_nil12 : Calls Tryz.prog 93 #[.pointer none] x fun e y => e = .returned (.pointer none) ∧ x = y := by
  go_enter Tryz.func93, Tryz.ntmps93
  go_wp2_with fail
  go_ret
  exact ⟨rfl, rfl⟩
theorem list_nil12 : Calls Tryz.prog 58 #[.pointer none] x fun e y => e = .returned (.slice none 0 0) ∧ Kept [] x y := by
  have HA := Lib.hid (all_nil12 (x := x))
  have HR := Lib.hid (Bt.runs_nil x)
  go_enter Tryz.func58, Tryz.ntmps58
  go_wp2_with fail
  refine HA.out.mono ?_
  rintro e y ⟨rfl, rfl⟩
  go_wp2_with fail
  refine HR.out.mono ?_
  rintro e y ⟨rfl, k⟩
  have K := Lib.hid k
  clear k HR HA
  go_wp2_with fail
  refine wp_loop_rounds 1 ?_
  rw [rounds_succ]
  go_wp2_with fail
  go_ret
  exact ⟨rfl, K.out⟩
end
end Go.Proofs.YtoagghileebokaaGreatDoor.Bk
