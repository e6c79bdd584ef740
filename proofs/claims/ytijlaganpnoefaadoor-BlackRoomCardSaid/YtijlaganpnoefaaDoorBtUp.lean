/-
  The loop over a vector's pieces, upwards: the contract of the function that up hands back.
-/
import Derived.Test.YtijlaganpnoefaaDoorBtKeep
import Derived.Shelf.Abstract
import Derived.OwnWalkIn
import Derived.TacticsInMore
import Derived.LoopNIn
import Derived.LoopIn
import Derived.Lib.QuietBelow
namespace Go.Proofs.YtijlaganpnoefaaDoor.Bt
open Go.RowKit Go.Proofs.YtijlaganpnoefaaDoor.Ar Go.Proofs.YtijlaganpnoefaaDoor.Wd Go.Shelf Go.Sort
set_option linter.unusedVariables false
attribute [local go_sem] Oper.semAt_some

theorem up1_in (n : Nat) (hn : 1 ≤ n) (G : List Int → Prop) (hG : Good G) (S : List Nat) (p q N bi be bb i e : Nat) (hN : N ≤ 65536) (he : e ≤ N) (hS : p ∉ S ∧ bi ∉ S ∧ be ∉ S ∧ bb ∉ S)
    (l : Nat) (J Jx : List (Pcs ((N + 63) / 64)) → World → Prop) (W : World) (hB : ∀ b ∈ S, b < W.heap.size) (hJ : AbidesFrom W.heap.size J)
    (hY : ∀ pre x W1, J pre W1 → pre.length < e - i → YieldAt Fence.wide (n - 1) Tryd.prog l (encs x) W1 fun e W' =>
      (e = .returned (.bool true) ∧ J (pre ++ [x]) W' ∧ Keeps G S q W1 W') ∨ (e = .returned (.bool false) ∧ Jx (pre ++ [x]) W'))
    (hR : Reads G W p q N bi be bb i e) (h0 : J [] W) :
    CallsIn Fence.wide n Tryd.prog 48 #[.func (.yield l) #[] #[], .pointer (some ⟨bi, 0, none⟩), .pointer (some ⟨be, 0, none⟩), .pointer (some ⟨bb, 0, none⟩)] W fun e' W' => (∃ v, e' = .returned v) ∧
      ((∃ xs, (∃ t, Goes G e i xs t ∧ e ≤ t) ∧ J xs W') ∨ (∃ pre, (∃ t, Goes G e i pre t) ∧ Jx pre W')) := by
  have ci := hR.from'.cell 0
  simp at ci
  have HR := Lib.hid hR
  have HJ := Lib.hid hJ
  have HY := Lib.hid hY
  have HG := Lib.hid hG
  have H0 := Lib.hid h0
  have HS := Lib.hid hS
  have HB := Lib.hid hB
  clear hR hJ hY hG h0 hS hB
  refine callsIn_of_wp Tryd.func48 rfl trivial ?_ rfl
  simp only [Tryd.ntmps48, List.size_toArray, List.length_cons, List.length_nil, Nat.reduceAdd, Nat.reduceSub, Array.replicate_succ, Array.replicate_zero, List.push_toArray, List.append_toArray, List.nil_append, List.cons_append]
  gi_wp2
  gi_loopw [5] (fun v wr => ∃ (pre : List (Pcs ((N + 63) / 64))) (t : Nat), v = .int .i64 (t : Int) ∧ Hid (Goes G e i pre t ∧ J pre wr ∧ Reads G wr p q N bi be bb i e ∧ W.heap.size ≤ wr.heap.size))
    (fun v _ => e - (intOf v).toNat)
  case atStart => exact ⟨[], i, rfl, Lib.hid ⟨rfl, H0.out, HR.out, Nat.le_refl _⟩⟩
  case round =>
    obtain ⟨pre, t, rfl, hrel⟩ := hrel
    have ce := hrel.out.2.2.1.below.cell 0
    simp at ce
    by_cases hlt : t < e
    · have Hp := Lib.hid (partsOf_ok t (by omega) wr)
      have h64 : t % 64 < 64 := Nat.mod_lt _ (by decide)
      obtain ⟨m, hm⟩ : ∃ m, m = min (64 - t % 64) (e - t) := ⟨_, rfl⟩
      obtain ⟨a, ha⟩ : ∃ a, a = t % 64 := ⟨_, rfl⟩
      obtain ⟨k, hk⟩ : ∃ k, k = t / 64 := ⟨_, rfl⟩
      rw [← ha, ← hk] at Hp
      have Ha := Lib.hid ha
      have Hk := Lib.hid hk
      have Hm := Lib.hid hm
      have hm1 : (m : Int) ≤ 64 - (a : Int) := by omega
      have hm2 : (m : Int) ≤ (e : Int) - (t : Int) := by omega
      have hmin : ((64 - (a : Int) ≤ (e : Int) - (t : Int)) ∧ (m : Int) = 64 - (a : Int)) ∨ (((e : Int) - (t : Int) < 64 - (a : Int)) ∧ (m : Int) = (e : Int) - (t : Int)) := by omega
      have hm0 : 1 ≤ m := by omega
      have ham : a + m ≤ 64 := by omega
      clear hm ha hk h64
      gi_wp2_with (fail)
      refine ⟨trivial, (callsIn_wide.2 Hp.out).mono ?_⟩
      rintro e1 w1 ⟨rfl, hk1⟩
      have R1 := Lib.hid (hrel.out.2.2.1.keep0 hk1)
      have ce1 : ∀ o, (w1.alloc o).cell? ⟨be, 0, none⟩ = some (.int .i64 (e : Int)) := fun o => (R1.out.keep0 ((Kept.refl [] w1).alloc o)).below.cell 0
      have Hk1 := Lib.hid hk1
      clear hk1
      have Em := Lib.hid (show min (64 - (a : Int)) ((e : Int) - (t : Int)) = (m : Int) by omega)
      gi_wp2_with (fail)
      rw [Em.out]
      have hb2 : Has (w1.alloc (.cells #[.int .i64 (k : Int), .int .i64 (a : Int), .int .i64 (m : Int)] 77)) w1.heap.size 77 [.int .i64 (k : Int), .int .i64 (a : Int), .int .i64 (m : Int)] := Has.new w1 _ _
      have hk2 : Kept [] w1 (w1.alloc (.cells #[.int .i64 (k : Int), .int .i64 (a : Int), .int .i64 (m : Int)] 77)) := (Kept.refl [] w1).alloc _
      generalize w1.alloc (.cells #[.int .i64 (k : Int), .int .i64 (a : Int), .int .i64 (m : Int)] 77) = w2 at *
      generalize hB : w1.heap.size = B at hb2 ⊢
      have hBw := Lib.hid hB
      clear hB
      obtain ⟨ws, hGw, hws⟩ := (R1.out.keep0 hk2).row
      have hv2 : Vec w2 p q N ws := ⟨(R1.out.keep0 hk2).head, hws, (HG.out ws hGw).1, hN, (HG.out ws hGw).2⟩
      have hkn : k < (N + 63) / 64 := by have := Hk.out; omega
      have b0 := cell_regrown (show w2.cell? ⟨B, 0, none⟩ = some (.int .i64 (k : Int)) from hb2.cell 0)
      have b1 := cell_regrown (show w2.cell? ⟨B, 1, none⟩ = some (.int .i64 (a : Int)) from hb2.cell 1)
      have b2 := cell_regrown (show w2.cell? ⟨B, 2, none⟩ = some (.int .i64 (m : Int)) from hb2.cell 2)
      have bv := cell_regrown (show w2.cell? ⟨bb, 0, none⟩ = some (.pointer (some ⟨p, 0, none⟩)) from (R1.out.keep0 hk2).vec.cell 0)
      have cC : ∀ d os, Calls Tryd.prog 50 #[.pointer (some ⟨p, 0, none⟩), pieceV k a m] (grow (redrawn w2 d) os) fun e w'' => e = .returned (.int .u64 ((fld (ws.getD k 0).toNat a m : Nat) : Int)) ∧ ∃ p : Regrown, w'' = grow (redrawn w2 p.d) p.os :=
        fun d os => Calls.regrown_of ((cut_ok _ (hv2.keep0 (Kept.ofBelow (below_regrown w2 d os) [])) k a m hkn hm0 ham).mono fun _ _ ⟨he, hk⟩ => ⟨he, hk.below (Nat.le_refl _) (by simp)⟩)
      unfold pieceV at cC
      obtain ⟨x, hx⟩ : ∃ x, x = fld (ws.getD k 0).toNat a m := ⟨_, rfl⟩
      rw [← hx] at cC
      have hfl : x < 2 ^ m := by rw [hx]; exact fld_lt _ a m
      have hpw : 2 ^ m ≤ 18446744073709551616 := Nat.pow_le_pow_right (n := 2) (by decide) (show m ≤ 64 by omega)
      have hok : Pc.ok ((N + 63) / 64) ⟨k, a, m, x⟩ := ⟨hm0, ham, hkn, show x < _ by omega⟩
      have HX := Lib.hid hx
      clear hx hfl hpw
      have CC := Lib.hid cC
      have Hb2 := Lib.hid hb2
      have Hv2 := Lib.hid hv2
      have Hk2 := Lib.hid hk2
      have Hws := Lib.hid hws
      have HGw := Lib.hid hGw
      clear cC hb2 hv2 hk2 hws hGw ce1 Em
      refine Rk.wpIn_head (r := none) (C := fun w' => ∃ p : Regrown, w' = grow (redrawn w2 p.d) p.os) 5 (by kernel_rfl) (by kernel_rfl) ⟨⟨w2.drawn + 1, #[]⟩, by rw [grow_empty]; rfl⟩ ?_
      simp only [List.take_succ_cons, List.take_zero, List.drop_succ_cons, List.drop_zero]
      repeat (quiet_step (exact CC.out _ _))
      refine wpQuiet_nil ?_
      rintro _ ⟨⟨dq, osq⟩, rfl⟩
      rw [Rk.fence_none]
      have hk3 := Kept.ofBelow (below_regrown w2 dq osq) []
      show wpListIn _ _ _ _ _ _ _ (grow (redrawn w2 dq) osq)
      generalize grow (redrawn w2 dq) osq = w3 at hk3 ⊢
      have hk03 := (Hk1.out.trans Hk2.out).trans hk3
      have hlen : pre.length < e - i := by have := hrel.out.1.length; omega
      obtain ⟨fn, tmps, assign, body, hy, hR⟩ := HY.out pre ⟨⟨k, a, m, x⟩, hok⟩ w3
        (HJ.out pre wr w3 none hrel.out.2.1 ⟨hk03.os, hk03.tape, hk03.out, hk03.more, fun j hj _ => hk03.old j hj (by simp)⟩ (fun r h => by cases h)) hlen
      have Hx : Hid (isAt G e t ⟨k, a, m, x⟩) := Lib.hid ⟨Hk.out, Ha.out, Hm.out, ws, HGw.out, by rw [← Hk.out]; exact HX.out⟩
      dsimp only [encs, pieceV] at hy
      clear hlen b0 b1 b2 bv
      have HbS : Hid (B ∉ S ∧ W.heap.size ≤ B) := Lib.hid ⟨fun hb => by have h1 := HB.out B hb; have h2 := hrel.out.2.2.2; have h3 := hBw.out; have h4 := Hk1.out.more; omega, by have h2 := hrel.out.2.2.2; have h3 := hBw.out; have h4 := Hk1.out.more; omega⟩
      have Hk3 := Lib.hid hk3
      have Hk03 := Lib.hid hk03
      clear hk3 hk03
      gi_wp2_with (fail)
      refine hR.mono ?_
      rintro e3 W3 (⟨rfl, hJ3, hkp⟩ | ⟨rfl, hJx⟩)
      · have hb3 : Has W3 B 77 [.int .i64 (k : Int), .int .i64 (a : Int), .int .i64 (m : Int)] := hkp.1.has HbS.out.1 (Hb2.out.keep0 Hk3.out)
        have c3 := hb3.cell 2
        simp at c3
        have HRel : Hid (Goes G e i (pre ++ [⟨⟨k, a, m, x⟩, hok⟩]) (t + m) ∧ J (pre ++ [⟨⟨k, a, m, x⟩, hok⟩]) W3 ∧ Reads G W3 p q N bi be bb i e ∧ W.heap.size ≤ W3.heap.size) :=
          Lib.hid ⟨hrel.out.1.snoc hlt Hx.out, hJ3, (hrel.out.2.2.1.keep0 Hk03.out).kept hkp HS.out.1 HS.out.2.1 HS.out.2.2.1 HS.out.2.2.2, by have h1 := hrel.out.2.2.2; have h2 := Hk03.out.more; have h3 := hkp.1.size; omega⟩
        clear hJ3 hkp hb3
        gi_wp2_with (fail)
        go_roundw
        case rel => exact ⟨_, t + m, by go_num, HRel⟩
        case measure => simp [intOf]; omega
      · gi_wp2_with (fail)
        refine bodyPost_ret (results_none rfl _ _ _) rfl ?_
        exact ⟨⟨_, rfl⟩, .inr ⟨_, ⟨t + m, hrel.out.1.snoc hlt Hx.out⟩, hJx⟩⟩
    · gi_wp2_with (fail)
      go_end0
      exact ⟨⟨_, rfl⟩, .inl ⟨pre, ⟨t, hrel.out.1, by omega⟩, hrel.out.2.1⟩⟩

theorem up_stops (n : Nat) (hn : 1 ≤ n) (G : List Int → Prop) (hG : Good G) (S : List Nat) (p q N bi be bb i e : Nat) (hN : N ≤ 65536) (he : e ≤ N) (hS : p ∉ S ∧ bi ∉ S ∧ be ∉ S ∧ bb ∉ S) (w : World) (hB : ∀ b ∈ S, b < w.heap.size) (hR : Reads G w p q N bi be bb i e) :
    SeqStopsK Fence.wide n Tryd.prog 48 #[.pointer (some ⟨bi, 0, none⟩), .pointer (some ⟨be, 0, none⟩), .pointer (some ⟨bb, 0, none⟩)] (encs (nw := (N + 63) / 64)) (Keeps G S q) (fun xs => ∃ t, Goes G e i xs t ∧ e ≤ t) (fun pre => ∃ t, Goes G e i pre t) (e - i) w :=
  fun l J Jx W hW hJ _ hY h0 => up1_in n hn G hG S p q N bi be bb i e hN he hS l J Jx W (fun b hb => Nat.lt_of_lt_of_le (hB b hb) hW.size) hJ hY (hR.keep0 (Kept.ofBelow hW [])) h0
end Go.Proofs.YtijlaganpnoefaaDoor.Bt
