/-
  Several texts in one: BtUp, BtDown, BtMath, BtCount.
-/
import Derived.Test.YtoagghileebokaaGreatDoorG13
import Derived.Shelf.Abstract
import Derived.OwnWalkIn
import Derived.TacticsInMore
import Derived.LoopNIn
import Derived.LoopIn
import Derived.Lib.QuietBelow
import Derived.Test.YtoagghileebokaaGreatDoorG03
/-
  The loop over a vector's pieces, upwards: the contract of the function that up hands back.
-/
namespace Go.Proofs.YtoagghileebokaaGreatDoor.Bt
open Go.RowKit Go.Proofs.YtoagghileebokaaGreatDoor.Ar Go.Proofs.YtoagghileebokaaGreatDoor.Wd Go.Shelf Go.Sort
set_option linter.unusedVariables false
attribute [local go_sem] Oper.semAt_some

theorem up1_in (n : Nat) (hn : 1 ≤ n) (G : List Int → Prop) (hG : Good G) (S : List Nat) (p q N bi be bb i e : Nat) (hN : N ≤ 65536) (he : e ≤ N) (hS : p ∉ S ∧ bi ∉ S ∧ be ∉ S ∧ bb ∉ S)
    (l : Nat) (J Jx : List (Pcs ((N + 63) / 64)) → World → Prop) (W : World) (hB : ∀ b ∈ S, b < W.heap.size) (hJ : AbidesFrom W.heap.size J)
    (hY : ∀ pre x W1, J pre W1 → pre.length < e - i → YieldAt Fence.wide (n - 1) Tryz.prog l (encs x) W1 fun e W' =>
      (e = .returned (.bool true) ∧ J (pre ++ [x]) W' ∧ Keeps G S q W1 W') ∨ (e = .returned (.bool false) ∧ Jx (pre ++ [x]) W'))
    (hR : Reads G W p q N bi be bb i e) (h0 : J [] W) :
    CallsIn Fence.wide n Tryz.prog 130 #[.func (.yield l) #[] #[], .pointer (some ⟨bi, 0, none⟩), .pointer (some ⟨be, 0, none⟩), .pointer (some ⟨bb, 0, none⟩)] W fun e' W' => (∃ v, e' = .returned v) ∧
      ((∃ xs, (∃ t, Goes G e i xs t ∧ e ≤ t) ∧ J xs W') ∨ (∃ pre, (∃ t, Goes G e i pre t) ∧ Jx pre W')) := by
  have ci := hR.from'.cell 0
  simp at ci
  have HR := Lib.hid hR
  have HJ := Lib.hid hJ
  have HY := Lib.hid hY
  have HG := Lib.hid hG
  have H0 := Lib.hid h0
  have HS := Lib.hid hS
  have HB := Lib.hid hB
  clear hR hJ hY hG h0 hS hB
  refine callsIn_of_wp Tryz.func130 rfl trivial ?_ rfl
  simp only [Tryz.ntmps130, List.size_toArray, List.length_cons, List.length_nil, Nat.reduceAdd, Nat.reduceSub, Array.replicate_succ, Array.replicate_zero, List.push_toArray, List.append_toArray, List.nil_append, List.cons_append]
  gi_wp2
  gi_loopw [5] (fun v wr => ∃ (pre : List (Pcs ((N + 63) / 64))) (t : Nat), v = .int .i64 (t : Int) ∧ Hid (Goes G e i pre t ∧ J pre wr ∧ Reads G wr p q N bi be bb i e ∧ W.heap.size ≤ wr.heap.size))
    (fun v _ => e - (intOf v).toNat)
  case atStart => exact ⟨[], i, rfl, Lib.hid ⟨rfl, H0.out, HR.out, Nat.le_refl _⟩⟩
  case round =>
    obtain ⟨pre, t, rfl, hrel⟩ := hrel
    have ce := hrel.out.2.2.1.below.cell 0
    simp at ce
    by_cases hlt : t < e
    · have Hp := Lib.hid (partsOf_ok t (by omega) wr)
      have h64 : t % 64 < 64 := Nat.mod_lt _ (by decide)
      obtain ⟨m, hm⟩ : ∃ m, m = min (64 - t % 64) (e - t) := ⟨_, rfl⟩
      obtain ⟨a, ha⟩ : ∃ a, a = t % 64 := ⟨_, rfl⟩
      obtain ⟨k, hk⟩ : ∃ k, k = t / 64 := ⟨_, rfl⟩
      rw [← ha, ← hk] at Hp
      have Ha := Lib.hid ha
      have Hk := Lib.hid hk
      have Hm := Lib.hid hm
      have hm1 : (m : Int) ≤ 64 - (a : Int) := by omega
      have hm2 : (m : Int) ≤ (e : Int) - (t : Int) := by omega
      have hmin : ((64 - (a : Int) ≤ (e : Int) - (t : Int)) ∧ (m : Int) = 64 - (a : Int)) ∨ (((e : Int) - (t : Int) < 64 - (a : Int)) ∧ (m : Int) = (e : Int) - (t : Int)) := by omega
      have hm0 : 1 ≤ m := by omega
      have ham : a + m ≤ 64 := by omega
      clear hm ha hk h64
      gi_wp2_with (fail)
      refine ⟨trivial, (callsIn_wide.2 Hp.out).mono ?_⟩
      rintro e1 w1 ⟨rfl, hk1⟩
      have R1 := Lib.hid (hrel.out.2.2.1.keep0 hk1)
      have ce1 : ∀ o, (w1.alloc o).cell? ⟨be, 0, none⟩ = some (.int .i64 (e : Int)) := fun o => (R1.out.keep0 ((Kept.refl [] w1).alloc o)).below.cell 0
      have Hk1 := Lib.hid hk1
      clear hk1
      have Em := Lib.hid (show min (64 - (a : Int)) ((e : Int) - (t : Int)) = (m : Int) by omega)
      gi_wp2_with (fail)
      rw [Em.out]
      have hb2 : Has (w1.alloc (.cells #[.int .i64 (k : Int), .int .i64 (a : Int), .int .i64 (m : Int)] 174)) w1.heap.size 174 [.int .i64 (k : Int), .int .i64 (a : Int), .int .i64 (m : Int)] := Has.new w1 _ _
      have hk2 : Kept [] w1 (w1.alloc (.cells #[.int .i64 (k : Int), .int .i64 (a : Int), .int .i64 (m : Int)] 174)) := (Kept.refl [] w1).alloc _
      generalize w1.alloc (.cells #[.int .i64 (k : Int), .int .i64 (a : Int), .int .i64 (m : Int)] 174) = w2 at *
      generalize hB : w1.heap.size = B at hb2 ⊢
      have hBw := Lib.hid hB
      clear hB
      obtain ⟨ws, hGw, hws⟩ := (R1.out.keep0 hk2).row
      have hv2 : Vec w2 p q N ws := ⟨(R1.out.keep0 hk2).head, hws, (HG.out ws hGw).1, hN, (HG.out ws hGw).2⟩
      have hkn : k < (N + 63) / 64 := by have := Hk.out; omega
      have b0 := cell_regrown (show w2.cell? ⟨B, 0, none⟩ = some (.int .i64 (k : Int)) from hb2.cell 0)
      have b1 := cell_regrown (show w2.cell? ⟨B, 1, none⟩ = some (.int .i64 (a : Int)) from hb2.cell 1)
      have b2 := cell_regrown (show w2.cell? ⟨B, 2, none⟩ = some (.int .i64 (m : Int)) from hb2.cell 2)
      have bv := cell_regrown (show w2.cell? ⟨bb, 0, none⟩ = some (.pointer (some ⟨p, 0, none⟩)) from (R1.out.keep0 hk2).vec.cell 0)
      have cC : ∀ d os, Calls Tryz.prog 132 #[.pointer (some ⟨p, 0, none⟩), pieceV k a m] (grow (redrawn w2 d) os) fun e w'' => e = .returned (.int .u64 ((fld (ws.getD k 0).toNat a m : Nat) : Int)) ∧ ∃ p : Regrown, w'' = grow (redrawn w2 p.d) p.os :=
        fun d os => Calls.regrown_of ((cut_ok _ (hv2.keep0 (Kept.ofBelow (below_regrown w2 d os) [])) k a m hkn hm0 ham).mono fun _ _ ⟨he, hk⟩ => ⟨he, hk.below (Nat.le_refl _) (by simp)⟩)
      unfold pieceV at cC
      obtain ⟨x, hx⟩ : ∃ x, x = fld (ws.getD k 0).toNat a m := ⟨_, rfl⟩
      rw [← hx] at cC
      have hfl : x < 2 ^ m := by rw [hx]; exact fld_lt _ a m
      have hpw : 2 ^ m ≤ 18446744073709551616 := Nat.pow_le_pow_right (n := 2) (by decide) (show m ≤ 64 by omega)
      have hok : Pc.ok ((N + 63) / 64) ⟨k, a, m, x⟩ := ⟨hm0, ham, hkn, show x < _ by omega⟩
      have HX := Lib.hid hx
      clear hx hfl hpw
      have CC := Lib.hid cC
      have Hb2 := Lib.hid hb2
      have Hv2 := Lib.hid hv2
      have Hk2 := Lib.hid hk2
      have Hws := Lib.hid hws
      have HGw := Lib.hid hGw
      clear cC hb2 hv2 hk2 hws hGw ce1 Em
      refine Rk.wpIn_head (r := none) (C := fun w' => ∃ p : Regrown, w' = grow (redrawn w2 p.d) p.os) 5 (by kernel_rfl) (by kernel_rfl) ⟨⟨w2.drawn + 1, #[]⟩, by rw [grow_empty]; rfl⟩ ?_
      simp only [List.take_succ_cons, List.take_zero, List.drop_succ_cons, List.drop_zero]
      repeat (quiet_step (exact CC.out _ _))
      refine wpQuiet_nil ?_
      rintro _ ⟨⟨dq, osq⟩, rfl⟩
      rw [Rk.fence_none]
      have hk3 := Kept.ofBelow (below_regrown w2 dq osq) []
      show wpListIn _ _ _ _ _ _ _ (grow (redrawn w2 dq) osq)
      generalize grow (redrawn w2 dq) osq = w3 at hk3 ⊢
      have hk03 := (Hk1.out.trans Hk2.out).trans hk3
      have hlen : pre.length < e - i := by have := hrel.out.1.length; omega
      obtain ⟨fn, tmps, assign, body, hy, hR⟩ := HY.out pre ⟨⟨k, a, m, x⟩, hok⟩ w3
        (HJ.out pre wr w3 none hrel.out.2.1 ⟨hk03.os, hk03.tape, hk03.out, hk03.more, fun j hj _ => hk03.old j hj (by simp)⟩ (fun r h => by cases h)) hlen
      have Hx : Hid (isAt G e t ⟨k, a, m, x⟩) := Lib.hid ⟨Hk.out, Ha.out, Hm.out, ws, HGw.out, by rw [← Hk.out]; exact HX.out⟩
      dsimp only [encs, pieceV] at hy
      clear hlen b0 b1 b2 bv
      have HbS : Hid (B ∉ S ∧ W.heap.size ≤ B) := Lib.hid ⟨fun hb => by have h1 := HB.out B hb; have h2 := hrel.out.2.2.2; have h3 := hBw.out; have h4 := Hk1.out.more; omega, by have h2 := hrel.out.2.2.2; have h3 := hBw.out; have h4 := Hk1.out.more; omega⟩
      have Hk3 := Lib.hid hk3
      have Hk03 := Lib.hid hk03
      clear hk3 hk03
      gi_wp2_with (fail)
      refine hR.mono ?_
      rintro e3 W3 (⟨rfl, hJ3, hkp⟩ | ⟨rfl, hJx⟩)
      · have hb3 : Has W3 B 174 [.int .i64 (k : Int), .int .i64 (a : Int), .int .i64 (m : Int)] := hkp.1.has HbS.out.1 (Hb2.out.keep0 Hk3.out)
        have c3 := hb3.cell 2
        simp at c3
        have HRel : Hid (Goes G e i (pre ++ [⟨⟨k, a, m, x⟩, hok⟩]) (t + m) ∧ J (pre ++ [⟨⟨k, a, m, x⟩, hok⟩]) W3 ∧ Reads G W3 p q N bi be bb i e ∧ W.heap.size ≤ W3.heap.size) :=
          Lib.hid ⟨hrel.out.1.snoc hlt Hx.out, hJ3, (hrel.out.2.2.1.keep0 Hk03.out).kept hkp HS.out.1 HS.out.2.1 HS.out.2.2.1 HS.out.2.2.2, by have h1 := hrel.out.2.2.2; have h2 := Hk03.out.more; have h3 := hkp.1.size; omega⟩
        clear hJ3 hkp hb3
        gi_wp2_with (fail)
        go_roundw
        case rel => exact ⟨_, t + m, by go_num, HRel⟩
        case measure => simp [intOf]; omega
      · gi_wp2_with (fail)
        refine bodyPost_ret (results_none rfl _ _ _) rfl ?_
        exact ⟨⟨_, rfl⟩, .inr ⟨_, ⟨t + m, hrel.out.1.snoc hlt Hx.out⟩, hJx⟩⟩
    · gi_wp2_with (fail)
      go_end0
      exact ⟨⟨_, rfl⟩, .inl ⟨pre, ⟨t, hrel.out.1, by omega⟩, hrel.out.2.1⟩⟩

theorem up_stops (n : Nat) (hn : 1 ≤ n) (G : List Int → Prop) (hG : Good G) (S : List Nat) (p q N bi be bb i e : Nat) (hN : N ≤ 65536) (he : e ≤ N) (hS : p ∉ S ∧ bi ∉ S ∧ be ∉ S ∧ bb ∉ S) (w : World) (hB : ∀ b ∈ S, b < w.heap.size) (hR : Reads G w p q N bi be bb i e) :
    SeqStopsK Fence.wide n Tryz.prog 130 #[.pointer (some ⟨bi, 0, none⟩), .pointer (some ⟨be, 0, none⟩), .pointer (some ⟨bb, 0, none⟩)] (encs (nw := (N + 63) / 64)) (Keeps G S q) (fun xs => ∃ t, Goes G e i xs t ∧ e ≤ t) (fun pre => ∃ t, Goes G e i pre t) (e - i) w :=
  fun l J Jx W hW hJ _ hY h0 => up1_in n hn G hG S p q N bi be bb i e hN he hS l J Jx W (fun b hb => Nat.lt_of_lt_of_le (hB b hb) hW.size) hJ hY (hR.keep0 (Kept.ofBelow hW [])) h0
end Go.Proofs.YtoagghileebokaaGreatDoor.Bt

/-
  The loop over a vector's pieces, downwards: the contract of the function that down hands back.
-/
namespace Go.Proofs.YtoagghileebokaaGreatDoor.Bt
open Go.RowKit Go.Proofs.YtoagghileebokaaGreatDoor.Ar Go.Proofs.YtoagghileebokaaGreatDoor.Wd Go.Shelf Go.Sort
set_option linter.unusedVariables false
attribute [local go_sem] Oper.semAt_some

/-- The piece whose last bit is the bit c - 1. -/
def isAtD (G : List Int → Prop) (c : Nat) (x : Pc) : Prop :=
  x.k = (c - 1) / 64 ∧ x.a = 0 ∧ x.n = (c - 1) % 64 + 1 ∧ ∃ ws, G ws ∧ x.v = fld (ws.getD ((c - 1) / 64) 0).toNat x.a x.n
def Falls (G : List Int → Prop) {nw : Nat} : Nat → List (Pcs nw) → Nat → Prop
  | s, [], t => t = s
  | s, x :: xs, t => 0 < s ∧ isAtD G s x.1 ∧ Falls G (s - x.1.n) xs t
theorem Falls.snoc {G : List Int → Prop} {nw : Nat} {x : Pcs nw} : ∀ {xs : List (Pcs nw)} {s t : Nat}, Falls G s xs t → 0 < t → isAtD G t x.1 → Falls G s (xs ++ [x]) (t - x.1.n)
  | [], s, t, h, ht, hx => by
    have h' : t = s := h
    subst h'
    exact ⟨ht, hx, rfl⟩
  | y :: ys, s, t, ⟨h1, h2, h3⟩, ht, hx => ⟨h1, h2, Falls.snoc h3 ht hx⟩
theorem Falls.length {G : List Int → Prop} {nw : Nat} : ∀ {xs : List (Pcs nw)} {s t : Nat}, Falls G s xs t → xs.length + t ≤ s
  | [], s, t, h => by
    have h' : t = s := h
    simp
    omega
  | y :: ys, s, t, ⟨h1, ⟨_, _, h4, _⟩, h3⟩ => by
    have := Falls.length h3
    have := y.2.1
    rw [List.length_cons]
    omega
structure ReadsD (G : List Int → Prop) (W : World) (p q N bi bb : Nat) (i : Int) : Prop where
  head : Has W p 180 [.int .i64 (N : Int), .slice (some ⟨q, 0, none⟩) ((N + 63) / 64) 1024]
  row : ∃ ws, G ws ∧ Has W q 178 (ints ws)
  from' : Has W bi 3 [.int .i64 i]
  vec : Has W bb 70 [.pointer (some ⟨p, 0, none⟩)]
theorem ReadsD.keep0 {G : List Int → Prop} {W W' : World} {p q N bi bb : Nat} {i : Int} (h : ReadsD G W p q N bi bb i) (k : Kept [] W W') : ReadsD G W' p q N bi bb i :=
  ⟨h.head.keep0 k, let ⟨ws, hG, hq⟩ := h.row; ⟨ws, hG, hq.keep0 k⟩, h.from'.keep0 k, h.vec.keep0 k⟩
theorem ReadsD.kept {G : List Int → Prop} {S : List Nat} {W W' : World} {p q N bi bb : Nat} {i : Int} (h : ReadsD G W p q N bi bb i) (k : Keeps G S q W W') (h1 : p ∉ S) (h2 : bi ∉ S) (h4 : bb ∉ S) : ReadsD G W' p q N bi bb i :=
  ⟨k.1.has h1 h.head, k.2 h.row, k.1.has h2 h.from', k.1.has h4 h.vec⟩

theorem down1_in (n : Nat) (hn : 1 ≤ n) (G : List Int → Prop) (hG : Good G) (S : List Nat) (p q N bi bb : Nat) (i : Int) (hN : N ≤ 65536) (i1 : -9223372036854775808 ≤ i) (he : i < N) (hS : p ∉ S ∧ bi ∉ S ∧ bb ∉ S)
    (l : Nat) (J Jx : List (Pcs ((N + 63) / 64)) → World → Prop) (W : World) (hB : ∀ b ∈ S, b < W.heap.size) (hJ : AbidesFrom W.heap.size J)
    (hY : ∀ pre x W1, J pre W1 → pre.length < (i + 1).toNat → YieldAt Fence.wide (n - 1) Tryz.prog l (encs x) W1 fun e W' =>
      (e = .returned (.bool true) ∧ J (pre ++ [x]) W' ∧ Keeps G S q W1 W') ∨ (e = .returned (.bool false) ∧ Jx (pre ++ [x]) W'))
    (hR : ReadsD G W p q N bi bb i) (h0 : J [] W) :
    CallsIn Fence.wide n Tryz.prog 134 #[.func (.yield l) #[] #[], .pointer (some ⟨bi, 0, none⟩), .pointer (some ⟨bb, 0, none⟩)] W fun e' W' => (∃ v, e' = .returned v) ∧
      ((∃ xs, (Falls G (i + 1).toNat xs 0) ∧ J xs W') ∨ (∃ pre, (∃ t, Falls G (i + 1).toNat pre t) ∧ Jx pre W')) := by
  have ci := hR.from'.cell 0
  simp at ci
  have HR := Lib.hid hR
  have HJ := Lib.hid hJ
  have HY := Lib.hid hY
  have HG := Lib.hid hG
  have H0 := Lib.hid h0
  have HS := Lib.hid hS
  have HB := Lib.hid hB
  clear hR hJ hY hG h0 hS hB
  refine callsIn_of_wp Tryz.func134 rfl trivial ?_ rfl
  simp only [Tryz.ntmps134, List.size_toArray, List.length_cons, List.length_nil, Nat.reduceAdd, Nat.reduceSub, Array.replicate_succ, Array.replicate_zero, List.push_toArray, List.append_toArray, List.nil_append, List.cons_append]
  gi_wp2
  gi_loopw [4] (fun v wr => ∃ (pre : List (Pcs ((N + 63) / 64))) (z : Int), v = .int .i64 z ∧ (-9223372036854775808 ≤ z ∧ z < N) ∧ Hid (Falls G (i + 1).toNat pre (z + 1).toNat ∧ J pre wr ∧ ReadsD G wr p q N bi bb i ∧ W.heap.size ≤ wr.heap.size))
    (fun v _ => (intOf v + 1).toNat)
  case atStart => exact ⟨[], i, rfl, ⟨i1, he⟩, Lib.hid ⟨rfl, H0.out, HR.out, Nat.le_refl _⟩⟩
  case round =>
    obtain ⟨pre, z, rfl, ⟨z1, z2⟩, hrel⟩ := hrel
    by_cases hlt : 0 ≤ z
    · obtain ⟨t, rfl⟩ := Int.eq_ofNat_of_zero_le hlt
      have Hp := Lib.hid (partsOf_ok t (by omega) wr)
      obtain ⟨a, ha⟩ : ∃ a, a = t % 64 := ⟨_, rfl⟩
      obtain ⟨k, hk⟩ : ∃ k, k = t / 64 := ⟨_, rfl⟩
      rw [← ha, ← hk] at Hp
      have ha64 : a < 64 := by omega
      have Ha := Lib.hid ha
      have Hk := Lib.hid hk
      have hkb : k ≤ 65536 := by omega
      obtain ⟨m, hm⟩ : ∃ m, m = a + 1 := ⟨_, rfl⟩
      have hm0 : 1 ≤ m := by omega
      have ham : 0 + m ≤ 64 := by omega
      have Em := Lib.hid (show (a : Int) + 1 = (m : Int) by omega)
      have Hm := Lib.hid hm
      clear ha hk hm
      gi_wp2_with (fail)
      refine ⟨trivial, (callsIn_wide.2 Hp.out).mono ?_⟩
      rintro e1 w1 ⟨rfl, hk1⟩
      have R1 := Lib.hid (hrel.out.2.2.1.keep0 hk1)
      have Hk1 := Lib.hid hk1
      clear hk1
      gi_wp2_with (fail)
      rw [Em.out]
      have hk10 : Kept [] w1 (w1.alloc (.cells #[.int .i64 (k : Int), .int .i64 (a : Int)] 172)) := (Kept.refl [] w1).alloc _
      rw [show w1.heap.size + 1 = (w1.alloc (.cells #[.int .i64 (k : Int), .int .i64 (a : Int)] 172)).heap.size from (World.size_alloc _ _).symm]
      generalize w1.alloc (.cells #[.int .i64 (k : Int), .int .i64 (a : Int)] 172) = w10 at hk10 ⊢
      have hb2 : Has (w10.alloc (.cells #[.int .i64 (k : Int), .int .i64 0, .int .i64 (m : Int)] 174)) w10.heap.size 174 [.int .i64 (k : Int), .int .i64 0, .int .i64 (m : Int)] := Has.new w10 _ _
      have hk2 : Kept [] w1 (w10.alloc (.cells #[.int .i64 (k : Int), .int .i64 0, .int .i64 (m : Int)] 174)) := hk10.alloc _
      generalize w10.alloc (.cells #[.int .i64 (k : Int), .int .i64 0, .int .i64 (m : Int)] 174) = w2 at *
      generalize hB : w10.heap.size = B at hb2 ⊢
      have hBw := Lib.hid (show w1.heap.size ≤ B by have := hk10.more; omega)
      clear hB hk10
      obtain ⟨ws, hGw, hws⟩ := (R1.out.keep0 hk2).row
      have hv2 : Vec w2 p q N ws := ⟨(R1.out.keep0 hk2).head, hws, (HG.out ws hGw).1, hN, (HG.out ws hGw).2⟩
      have hkn : k < (N + 63) / 64 := by have := Hk.out; omega
      have b0 := cell_regrown (show w2.cell? ⟨B, 0, none⟩ = some (.int .i64 (k : Int)) from hb2.cell 0)
      have b1 := cell_regrown (show w2.cell? ⟨B, 1, none⟩ = some (.int .i64 0) from hb2.cell 1)
      have b2 := cell_regrown (show w2.cell? ⟨B, 2, none⟩ = some (.int .i64 (m : Int)) from hb2.cell 2)
      have bv := cell_regrown (show w2.cell? ⟨bb, 0, none⟩ = some (.pointer (some ⟨p, 0, none⟩)) from (R1.out.keep0 hk2).vec.cell 0)
      have cC : ∀ d os, Calls Tryz.prog 132 #[.pointer (some ⟨p, 0, none⟩), pieceV k 0 m] (grow (redrawn w2 d) os) fun e w'' => e = .returned (.int .u64 ((fld (ws.getD k 0).toNat 0 m : Nat) : Int)) ∧ ∃ p : Regrown, w'' = grow (redrawn w2 p.d) p.os :=
        fun d os => Calls.regrown_of ((cut_ok _ (hv2.keep0 (Kept.ofBelow (below_regrown w2 d os) [])) k 0 m hkn hm0 ham).mono fun _ _ ⟨he, hk⟩ => ⟨he, hk.below (Nat.le_refl _) (by simp)⟩)
      unfold pieceV at cC
      obtain ⟨x, hx⟩ : ∃ x, x = fld (ws.getD k 0).toNat 0 m := ⟨_, rfl⟩
      rw [← hx] at cC
      have hfl : x < 2 ^ m := by rw [hx]; exact fld_lt _ 0 m
      have hpw : 2 ^ m ≤ 18446744073709551616 := Nat.pow_le_pow_right (n := 2) (by decide) (show m ≤ 64 by omega)
      have hok : Pc.ok ((N + 63) / 64) ⟨k, 0, m, x⟩ := ⟨hm0, ham, hkn, show x < _ by omega⟩
      have HX := Lib.hid hx
      clear hx hfl hpw
      have CC := Lib.hid cC
      have Hb2 := Lib.hid hb2
      have Hv2 := Lib.hid hv2
      have Hk2 := Lib.hid hk2
      have Hws := Lib.hid hws
      have HGw := Lib.hid hGw
      clear cC hb2 hv2 hk2 hws hGw Em
      refine Rk.wpIn_head (r := none) (C := fun w' => ∃ p : Regrown, w' = grow (redrawn w2 p.d) p.os) 5 (by kernel_rfl) (by kernel_rfl) ⟨⟨w2.drawn + 1, #[]⟩, by rw [grow_empty]; rfl⟩ ?_
      simp only [List.take_succ_cons, List.take_zero, List.drop_succ_cons, List.drop_zero]
      repeat (quiet_step (exact CC.out _ _))
      refine wpQuiet_nil ?_
      rintro _ ⟨⟨dq, osq⟩, rfl⟩
      rw [Rk.fence_none]
      have hk3 := Kept.ofBelow (below_regrown w2 dq osq) []
      show wpListIn _ _ _ _ _ _ _ (grow (redrawn w2 dq) osq)
      generalize grow (redrawn w2 dq) osq = w3 at hk3 ⊢
      have hk03 := (Hk1.out.trans Hk2.out).trans hk3
      have hlen : pre.length < (i + 1).toNat := by have := hrel.out.1.length; omega
      have Hx : Hid (isAtD G (t + 1) ⟨k, 0, m, x⟩) := Lib.hid ⟨Hk.out, rfl, by have := Hm.out; have := Ha.out; show m = t % 64 + 1; omega, ws, HGw.out, by show x = fld (ws.getD (t / 64) 0).toNat 0 m; rw [← Hk.out]; exact HX.out⟩
      obtain ⟨fn, tmps, assign, body, hy, hR⟩ := HY.out pre ⟨⟨k, 0, m, x⟩, hok⟩ w3
        (HJ.out pre wr w3 none hrel.out.2.1 ⟨hk03.os, hk03.tape, hk03.out, hk03.more, fun j hj _ => hk03.old j hj (by simp)⟩ (fun r h => by cases h)) hlen
      dsimp only [encs, pieceV] at hy
      rw [show ((0 : Nat) : Int) = 0 from rfl] at hy
      have hsn : Hid (Falls G (i + 1).toNat (pre ++ [⟨⟨k, 0, m, x⟩, hok⟩]) ((t : Int) - m + 1).toNat) := Lib.hid (by
        have h1 := Falls.snoc (x := ⟨⟨k, 0, m, x⟩, hok⟩) hrel.out.1 (by omega) (by rw [show ((t : Int) + 1).toNat = t + 1 by omega]; exact Hx.out)
        rw [show ((t : Int) + 1).toNat - m = ((t : Int) - m + 1).toNat by have := Ha.out; have := Hm.out; omega] at h1
        exact h1)
      have hma : m ≤ t + 1 := by have := Ha.out; have := Hm.out; omega
      clear hlen b0 b1 b2 bv
      have HbS : Hid (B ∉ S ∧ W.heap.size ≤ B) := Lib.hid ⟨fun hb => by have h1 := HB.out B hb; have h2 := hrel.out.2.2.2; have h3 := hBw.out; have h4 := Hk1.out.more; omega, by have h2 := hrel.out.2.2.2; have h3 := hBw.out; have h4 := Hk1.out.more; omega⟩
      have Hk3 := Lib.hid hk3
      have Hk03 := Lib.hid hk03
      clear hk3 hk03
      gi_wp2_with (fail)
      refine hR.mono ?_
      rintro e3 W3 (⟨rfl, hJ3, hkp⟩ | ⟨rfl, hJx⟩)
      · have hb3 : Has W3 B 174 [.int .i64 (k : Int), .int .i64 0, .int .i64 (m : Int)] := hkp.1.has HbS.out.1 (Hb2.out.keep0 Hk3.out)
        have c3 := hb3.cell 2
        simp at c3
        have HRel : Hid (Falls G (i + 1).toNat (pre ++ [⟨⟨k, 0, m, x⟩, hok⟩]) ((t : Int) - m + 1).toNat ∧ J (pre ++ [⟨⟨k, 0, m, x⟩, hok⟩]) W3 ∧ ReadsD G W3 p q N bi bb i ∧ W.heap.size ≤ W3.heap.size) :=
          Lib.hid ⟨hsn.out, hJ3, (hrel.out.2.2.1.keep0 Hk03.out).kept hkp HS.out.1 HS.out.2.1 HS.out.2.2, by have h1 := hrel.out.2.2.2; have h2 := Hk03.out.more; have h3 := hkp.1.size; omega⟩
        clear hJ3 hkp hb3
        gi_wp2_with (fail)
        go_roundw
        case rel => exact ⟨_, (t : Int) - m, rfl, by omega, HRel⟩
        case measure => simp [intOf]; omega
      · gi_wp2_with (fail)
        refine bodyPost_ret (results_none rfl _ _ _) rfl ?_
        exact ⟨⟨_, rfl⟩, .inr ⟨_, ⟨_, hsn.out⟩, hJx⟩⟩
    · gi_wp2_with (fail)
      go_end0
      exact ⟨⟨_, rfl⟩, .inl ⟨pre, by have h1 := hrel.out.1; rw [show (z + 1).toNat = 0 by omega] at h1; exact h1, hrel.out.2.1⟩⟩

theorem down_stops (n : Nat) (hn : 1 ≤ n) (G : List Int → Prop) (hG : Good G) (S : List Nat) (p q N bi bb : Nat) (i : Int) (hN : N ≤ 65536) (i1 : -9223372036854775808 ≤ i) (he : i < N) (hS : p ∉ S ∧ bi ∉ S ∧ bb ∉ S) (w : World) (hB : ∀ b ∈ S, b < w.heap.size) (hR : ReadsD G w p q N bi bb i) :
    SeqStopsK Fence.wide n Tryz.prog 134 #[.pointer (some ⟨bi, 0, none⟩), .pointer (some ⟨bb, 0, none⟩)] (encs (nw := (N + 63) / 64)) (Keeps G S q) (fun xs => Falls G (i + 1).toNat xs 0) (fun pre => ∃ t, Falls G (i + 1).toNat pre t) (i + 1).toNat w :=
  fun l J Jx W hW hJ _ hY h0 => down1_in n hn G hG S p q N bi bb i hN i1 he hS l J Jx W (fun b hb => Nat.lt_of_lt_of_le (hB b hb) hW.size) hJ hY (hR.keep0 (Kept.ofBelow hW [])) h0
end Go.Proofs.YtoagghileebokaaGreatDoor.Bt

/-
  Plain facts on rows of bools, and on words of 64 bits that hold them. No program is named here.
-/
namespace Go.Proofs.YtoagghileebokaaGreatDoor.Bt
open Go.Proofs.YtoagghileebokaaGreatDoor.Wd

/-- How many of k are so. -/
def cnt (f : Nat → Bool) : Nat → Nat
  | 0 => 0
  | k + 1 => cnt f k + (f k).toNat
theorem cnt_le (f : Nat → Bool) (k : Nat) : cnt f k ≤ k := by
  induction k with
  | zero => exact Nat.le_refl _
  | succ k ih =>
    have : (f k).toNat ≤ 1 := by cases f k <;> decide
    show cnt f k + (f k).toNat ≤ k + 1
    omega
theorem cnt_congr {f g : Nat → Bool} (k : Nat) (h : ∀ j, j < k → f j = g j) : cnt f k = cnt g k := by
  induction k with
  | zero => rfl
  | succ k ih =>
    show cnt f k + (f k).toNat = cnt g k + (g k).toNat
    rw [ih fun j hj => h j (by omega), h k (by omega)]
theorem cnt_add (f : Nat → Bool) (a b : Nat) : cnt f (a + b) = cnt f a + cnt (fun j => f (a + j)) b := by
  induction b with
  | zero => rfl
  | succ b ih =>
    show cnt f (a + b) + (f (a + b)).toNat = cnt f a + (cnt (fun j => f (a + j)) b + (f (a + b)).toNat)
    omega
theorem ones_cnt (v k : Nat) : ones v k = cnt v.testBit k := by
  induction k with
  | zero => rfl
  | succ k ih =>
    show ones v k + v / 2 ^ k % 2 = cnt v.testBit k + (v.testBit k).toNat
    rw [ih, bit_tb]
/-- The first of k from s on that is so. -/
def nextV (f : Nat → Bool) : Nat → Nat → Option Nat
  | 0, _ => none
  | k + 1, s => if f s then some s else nextV f k (s + 1)
theorem nextV_skip (f : Nat → Bool) (m : Nat) : ∀ (k s : Nat), (∀ j, j < k → f (s + j) = false) → nextV f (k + m) s = nextV f m (s + k)
  | 0, s, _ => by rw [Nat.zero_add]; rfl
  | k + 1, s, h => by
    have h0 := h 0 (by omega)
    rw [Nat.add_zero] at h0
    rw [show k + 1 + m = (k + m) + 1 by omega]
    show (if f s then some s else nextV f (k + m) (s + 1)) = _
    rw [h0, if_neg (by decide), nextV_skip f m k (s + 1) (fun j hj => by rw [show s + 1 + j = s + (j + 1) by omega]; exact h (j + 1) (by omega)), show s + 1 + k = s + (k + 1) by omega]
theorem nextV_hit (f : Nat → Bool) (k s t : Nat) (ht : t < k) (h : ∀ j, j < t → f (s + j) = false) (hf : f (s + t) = true) : nextV f k s = some (s + t) := by
  rw [show k = t + ((k - t - 1) + 1) by omega, nextV_skip f _ t s h]
  show (if f (s + t) then some (s + t) else _) = _
  rw [hf, if_pos rfl]
theorem nextV_none (f : Nat → Bool) (k s : Nat) (h : ∀ j, j < k → f (s + j) = false) : nextV f k s = none := by
  have := nextV_skip f 0 k s h
  rw [Nat.add_zero] at this
  rw [this]
  rfl
theorem nextV_some {f : Nat → Bool} : ∀ {k s x : Nat}, nextV f k s = some x → s ≤ x ∧ x < s + k ∧ f x = true ∧ ∀ j, s ≤ j → j < x → f j = false
  | 0, _, _, h => by cases h
  | k + 1, s, x, h => by
    have h' : (if f s then some s else nextV f k (s + 1)) = some x := h
    cases hs : f s with
    | true =>
      rw [hs, if_pos rfl] at h'
      injection h' with h'
      subst h'
      exact ⟨Nat.le_refl _, by omega, hs, fun j h1 h2 => by omega⟩
    | false =>
      rw [hs, if_neg (by decide)] at h'
      obtain ⟨a, b, c, d⟩ := nextV_some h'
      refine ⟨by omega, by omega, c, fun j h1 h2 => ?_⟩
      by_cases e : j = s
      · subst e; exact hs
      · exact d j (by omega) h2
theorem nextV_no {f : Nat → Bool} : ∀ {k s : Nat}, nextV f k s = none → ∀ j, s ≤ j → j < s + k → f j = false
  | 0, _, _, j, h1, h2 => by omega
  | k + 1, s, h, j, h1, h2 => by
    have h' : (if f s then some s else nextV f k (s + 1)) = none := h
    cases hs : f s with
    | true => rw [hs, if_pos rfl] at h'; cases h'
    | false =>
      rw [hs, if_neg (by decide)] at h'
      by_cases e : j = s
      · subst e; exact hs
      · exact nextV_no h' j (by omega) (by omega)
/-- The last below k that is so. -/
def prevV (f : Nat → Bool) : Nat → Option Nat
  | 0 => none
  | k + 1 => if f k then some k else prevV f k
theorem prevV_skip (f : Nat → Bool) (c : Nat) : ∀ (m : Nat), (∀ j, c ≤ j → j < c + m → f j = false) → prevV f (c + m) = prevV f c
  | 0, _ => rfl
  | m + 1, h => by
    show (if f (c + m) then some (c + m) else prevV f (c + m)) = _
    rw [h (c + m) (by omega) (by omega), if_neg (by decide)]
    exact prevV_skip f c m fun j h1 h2 => h j h1 (by omega)
theorem prevV_hit (f : Nat → Bool) (k c : Nat) (hk : k < c) (hf : f k = true) (h : ∀ j, k < j → j < c → f j = false) : prevV f c = some k := by
  have e := prevV_skip f (k + 1) (c - (k + 1)) (fun j h1 h2 => h j (by omega) (by omega))
  rw [show k + 1 + (c - (k + 1)) = c by omega] at e
  rw [e]
  show (if f k then some k else prevV f k) = _
  rw [hf, if_pos rfl]
theorem prevV_none (f : Nat → Bool) (c : Nat) (h : ∀ j, j < c → f j = false) : prevV f c = none := by
  have e := prevV_skip f 0 c (fun j _ h2 => h j (by omega))
  rw [Nat.zero_add] at e
  rw [e]
  rfl

/-- What a call answers of a place: 0 if there is none. -/
def atI (o : Option Nat) : Int := (o.getD 0 : Nat)

/-- A bit of a row; none beyond the end is set. -/
def bit (bs : List Bool) (j : Nat) : Bool := bs.getD j false
theorem bit_out (bs : List Bool) (j : Nat) (h : bs.length ≤ j) : bit bs j = false := by
  unfold bit
  rw [List.getD, List.getElem?_eq_none h]
  rfl
theorem bit_ext {a b : List Bool} (hl : a.length = b.length) (h : ∀ j, j < a.length → bit a j = bit b j) : a = b := by
  apply List.ext_getElem hl
  intro j h1 h2
  have := h j h1
  unfold bit at this
  rw [List.getD, List.getD, List.getElem?_eq_getElem h1, List.getElem?_eq_getElem h2] at this
  exact this
/-- n bits from the bit i on as st. -/
def laid (bs : List Bool) (i n : Nat) (st : Bool) : List Bool := (List.range bs.length).map fun j => if i ≤ j ∧ j < i + n then st else bit bs j
theorem laid_length (bs : List Bool) (i n : Nat) (st : Bool) : (laid bs i n st).length = bs.length := by unfold laid; rw [List.length_map, List.length_range]
theorem laid_bit (bs : List Bool) (i n : Nat) (st : Bool) (j : Nat) (hj : j < bs.length) : bit (laid bs i n st) j = if i ≤ j ∧ j < i + n then st else bit bs j := by
  have e : bit (laid bs i n st) j = (laid bs i n st).getD j false := rfl
  rw [e, laid, List.getD, List.getElem?_map, List.getElem?_range hj]
  rfl
theorem laid_none (bs : List Bool) (i : Nat) (st : Bool) : laid bs i 0 st = bs :=
  bit_ext (laid_length _ _ _ _) fun j hj => by
    rw [laid_length] at hj
    rw [laid_bit _ _ _ _ j hj, if_neg (by omega)]
theorem laid_more (bs : List Bool) (i n m : Nat) (st : Bool) : laid (laid bs i n st) (i + n) m st = laid bs i (n + m) st :=
  bit_ext (by rw [laid_length, laid_length, laid_length]) fun j hj => by
    rw [laid_length, laid_length] at hj
    rw [laid_bit _ _ _ _ j (by rw [laid_length]; exact hj), laid_bit _ _ _ _ j hj, laid_bit _ _ _ _ j hj]
    by_cases h1 : i + n ≤ j ∧ j < i + n + m
    · rw [if_pos h1, if_pos (by omega)]
    · rw [if_neg h1]
      by_cases h2 : i ≤ j ∧ j < i + n
      · rw [if_pos h2, if_pos (by omega)]
      · rw [if_neg h2, if_neg (by omega)]

/-- These words hold these bits. -/
def Means (bs : List Bool) (ws : List Int) : Prop := ∀ i, i < bs.length → bit bs i = (ws.getD (i / 64) 0).toNat.testBit (i % 64)
/-- The field that the piece from the bit s on is: its bits are the row's. -/
theorem Means.field {bs : List Bool} {ws : List Int} (h : Means bs ws) (s n j : Nat) (hn : n ≤ 64 - s % 64) (hs : s + n ≤ bs.length) (hj : j < n) :
    (fld (ws.getD (s / 64) 0).toNat (s % 64) n).testBit j = bit bs (s + j) := by
  rw [fld_tb, decide_eq_true hj, Bool.true_and, h (s + j) (by omega), show (s + j) / 64 = s / 64 by omega, show (s + j) % 64 = s % 64 + j by omega]
theorem field_beyond (v a n j : Nat) (hj : n ≤ j) : (fld v a n).testBit j = false := by
  rw [fld_tb, decide_eq_false (by omega), Bool.false_and]
theorem Means.count {bs : List Bool} {ws : List Int} (h : Means bs ws) (s n : Nat) (hn : n ≤ 64 - s % 64) (hs : s + n ≤ bs.length) :
    ones (fld (ws.getD (s / 64) 0).toNat (s % 64) n) 64 = cnt (fun j => bit bs (s + j)) n := by
  rw [ones_top _ n (fld_lt _ _ _) 64 (by omega), ones_cnt]
  exact cnt_congr n fun j hj => h.field s n j hn hs hj
/-- The lowest bit that is 1, of y: below n just if one of these is. -/
theorem low_hit (y n : Nat) (hn : n ≤ 64) (h : lowFrom y 0 64 < n) : y.testBit (lowFrom y 0 64) = true ∧ ∀ j, j < lowFrom y 0 64 → y.testBit j = false := by
  have hb : ∀ j, y / 2 ^ j % 2 = (y.testBit j).toNat := bit_tb y
  by_cases hex : ∃ t, t < 64 ∧ y.testBit t = true ∧ ∀ j, j < t → y.testBit j = false
  · obtain ⟨t, ht, h1, h2⟩ := hex
    have e := low_iff y 0 64 t (by omega) (by omega) (by rw [hb, h1]; rfl) (fun j hj => by rw [hb, h2 j hj]; rfl)
    rw [e]
    exact ⟨h1, h2⟩
  · exfalso
    have hall : ∀ t, t < 64 → y.testBit t = false := by
      intro t
      induction t using Nat.strongRecOn with
      | _ t ih =>
        intro ht
        cases hh : y.testBit t with
        | false => rfl
        | true => exact absurd ⟨t, ht, hh, fun j hj => ih j hj (by omega)⟩ hex
    have : ∀ k i, i + k = 64 → lowFrom y i k = 64 := by
      intro k
      induction k with
      | zero => intro i hi; show i = 64; omega
      | succ k ih =>
        intro i hi
        show (if y / 2 ^ i % 2 = 1 then i else lowFrom y (i + 1) k) = 64
        rw [if_neg (by rw [hb, hall i (by omega)]; decide)]
        exact ih (i + 1) (by omega)
    rw [this 64 0 rfl] at h
    omega
theorem low_miss (y n : Nat) (hn : n ≤ 64) (h : ¬ lowFrom y 0 64 < n) : ∀ j, j < n → y.testBit j = false := by
  have hb : ∀ j, y / 2 ^ j % 2 = (y.testBit j).toNat := bit_tb y
  intro j
  induction j using Nat.strongRecOn with
  | _ j ih =>
    intro hj
    cases hh : y.testBit j with
    | false => rfl
    | true =>
      exfalso
      have e := low_iff y 0 64 j (by omega) (by omega) (by rw [hb, hh]; rfl) (fun t ht => by rw [hb, ih t ht (by omega)]; rfl)
      rw [e] at h
      exact h hj
/-- The word with the piece laid anew. -/
theorem Means.put {bs : List Bool} {ws : List Int} (h : Means bs ws) (hl : ws.length = 1024) (hb : bs.length ≤ 65536) (s n : Nat) (st : Bool) (x : Nat) (hn : n ≤ 64 - s % 64) (hs : s + n ≤ bs.length) (h1 : 1 ≤ n)
    (hv : (ws.getD (s / 64) 0).toNat < 18446744073709551616) (hx : x < 2 ^ n) (hbit : ∀ j, j < n → x.testBit j = st) :
    Means (laid bs s n st) (ws.set (s / 64) ((put (ws.getD (s / 64) 0).toNat (s % 64) n x : Nat) : Int)) := by
  intro i hi
  rw [laid_length] at hi
  rw [laid_bit _ _ _ _ i hi]
  by_cases hk : i / 64 = s / 64
  · have e : (ws.set (s / 64) ((Wd.put (ws.getD (s / 64) 0).toNat (s % 64) n x : Nat) : Int)).getD (i / 64) 0 = ((Wd.put (ws.getD (s / 64) 0).toNat (s % 64) n x : Nat) : Int) := by
      rw [hk, List.getD, List.getElem?_set_self (by rw [hl]; omega)]
      rfl
    rw [e, Int.toNat_natCast, put_tb _ _ _ _ _ hv (by omega) hx]
    by_cases hc : s ≤ i ∧ i < s + n
    · rw [if_pos hc, if_pos (by omega), hbit _ (by omega)]
    · rw [if_neg hc, if_neg (by omega), h i hi, hk]
  · have e : (ws.set (s / 64) ((Wd.put (ws.getD (s / 64) 0).toNat (s % 64) n x : Nat) : Int)).getD (i / 64) 0 = ws.getD (i / 64) 0 := by
      rw [List.getD, List.getElem?_set_ne (Ne.symm hk), ← List.getD]
    rw [e, if_neg (by omega)]
    exact h i hi
/-- What a word is xored with: nothing, or all bits. -/
theorem flip_bit (x m j : Nat) (hj : j < 64) (hm : m = 0 ∨ m = 18446744073709551615) : (x ^^^ m).testBit j = (x.testBit j == decide (m = 0)) := by
  rw [Nat.testBit_xor]
  rcases hm with rfl | rfl
  · rw [Nat.zero_testBit]
    cases x.testBit j <;> rfl
  · have : (18446744073709551615 : Nat).testBit j = true := by
      rw [show (18446744073709551615 : Nat) = 2 ^ 64 - 1 from rfl, Nat.testBit_two_pow_sub_one]
      exact decide_eq_true hj
    rw [this]
    cases x.testBit j <;> rfl
/-- The highest bit of a number that is not 0. -/
theorem top_bit (x : Nat) (h : x ≠ 0) : x.testBit (Nat.log2 x) = true ∧ ∀ j, Nat.log2 x < j → x.testBit j = false := by
  have e := (Nat.log2_eq_iff h (k := Nat.log2 x)).1 rfl
  refine ⟨?_, fun j hj => Nat.testBit_lt_two_pow (Nat.lt_of_lt_of_le e.2 (Nat.pow_le_pow_right (by decide) hj))⟩
  rw [Nat.testBit_eq_decide_div_mod_eq]
  have hd : x / 2 ^ Nat.log2 x = 1 := by
    have hp := Nat.two_pow_pos (Nat.log2 x)
    have h1 := (Nat.le_div_iff_mul_le hp (x := 1) (y := x)).2 (by omega)
    have h2 := (Nat.div_lt_iff_lt_mul hp (x := x) (y := 2)).2 (by rw [Nat.pow_succ] at e; omega)
    omega
  rw [hd]
  rfl
end Go.Proofs.YtoagghileebokaaGreatDoor.Bt

/-
  The contract of Count.
-/
namespace Go.Proofs.YtoagghileebokaaGreatDoor.Bt
open Go.RowKit Go.Proofs.YtoagghileebokaaGreatDoor.Ar Go.Proofs.YtoagghileebokaaGreatDoor.Wd Go.Shelf Go.Sort
set_option linter.unusedVariables false
attribute [local go_sem] Oper.semAt_some

/-- A vector at p, its words at q, with these bits. -/
def Bv (w : World) (p q : Nat) (bs : List Bool) : Prop := ∃ ws, Vec w p q bs.length ws ∧ Means bs ws
theorem Bv.kept {S : List Nat} {w w' : World} {p q : Nat} {bs : List Bool} (h : Bv w p q bs) (k : Kept S w w') (hp : p ∉ S) (hq : q ∉ S) : Bv w' p q bs := let ⟨ws, a, b⟩ := h; ⟨ws, a.kept k hp hq, b⟩
theorem Bv.keep0 {w w' : World} {p q : Nat} {bs : List Bool} (h : Bv w p q bs) (k : Kept [] w w') : Bv w' p q bs := h.kept k (by simp) (by simp)

/-- What all pieces' bits come to. -/
def sumP {nw : Nat} (xs : List (Pcs nw)) : Nat := (xs.map fun x => ones x.1.v 64).sum
theorem sumP_snoc {nw : Nat} (xs : List (Pcs nw)) (x : Pcs nw) : sumP (xs ++ [x]) = sumP xs + ones x.1.v 64 := by simp [sumP]
theorem sumP_le {nw : Nat} (xs : List (Pcs nw)) : sumP xs ≤ 64 * xs.length := by
  induction xs with
  | nil => exact Nat.le_refl _
  | cons x xs ih =>
    have := ones_le x.1.v 64
    have e : sumP (x :: xs) = ones x.1.v 64 + sumP xs := by simp [sumP]
    rw [e, List.length_cons]
    omega
/-- Of all pieces from s on it is the count. -/
theorem Goes.sum {bs : List Bool} {ws : List Int} (h : Means bs ws) {e : Nat} (he : e ≤ bs.length) {nw : Nat} : ∀ {xs : List (Pcs nw)} {s t : Nat}, Goes (· = ws) e s xs t → s ≤ e → sumP xs = cnt (fun j => bit bs (s + j)) (t - s)
  | [], s, t, hg, _ => by
    have h' : t = s := hg
    subst h'
    rw [Nat.sub_self]
    rfl
  | x :: xs, s, t, ⟨h1, ⟨h2, h3, h4, ws', h5, h6⟩, h7⟩, hs => by
    subst h5
    have ih := Goes.sum h he h7 (by omega)
    have ht := Goes.length h7
    have e1 : sumP (x :: xs) = ones x.1.v 64 + sumP xs := by simp [sumP]
    have hn := x.2.1
    rw [e1, ih, h6, h3, h.count s x.1.n (by omega) (by omega), show t - s = x.1.n + (t - (s + x.1.n)) by omega, cnt_add]
    congr 1
    exact cnt_congr _ fun j _ => by rw [Nat.add_assoc]

theorem good_of {w : World} {p q n : Nat} {ws : List Int} (h : Vec w p q n ws) : Good (· = ws) := fun ws' e => by subst e; exact ⟨h.len, h.word⟩

theorem kept_put {w W : World} (h : Kept [] w W) (D : Nat) (o : Obj) (hD : w.heap.size ≤ D) : Kept [] w (W.putObj D o) :=
  h.grown (grownBy_putObj' W D o) fun g e => .inr (by injection e with e; omega)

set_option maxRecDepth 100000 in
set_option maxHeartbeats 4000000 in
theorem count_yes (bs : List Bool) (p q : Nat) (w : World) (hv : Bv w p q bs) (i n : Nat) (hin : i + n ≤ bs.length) :
    Calls Tryz.prog 61 #[.pointer (some ⟨p, 0, none⟩), .int .i64 i, .int .i64 n] w fun e w' => e = .returned (.tuple #[.int .i64 ((cnt (fun j => bit bs (i + j)) n : Nat) : Int), .int .i64 0]) ∧ Kept [] w w' := by
  obtain ⟨ws, hV, hM⟩ := hv
  have hf := hV.few
  have hck := check_ok w hV i n (by omega) (by omega) (by omega) (by omega)
  rw [show errOf (within bs.length i n) = 0 from by rw [(within_iff _ _ _).2 (by omega)]; rfl] at hck
  have Hck := Lib.hid hck
  have HV := Lib.hid hV
  have HM := Lib.hid hM
  clear hck hV hM
  refine (callsIn_wide (n := 5)).1 ?_
  refine callsIn_of_wp_marks Tryz.func61 rfl trivial ?_ rfl
  simp only [Tryz.ntmps61, List.size_toArray, List.length_cons, List.length_nil, Nat.reduceAdd, Nat.reduceSub, Array.replicate_succ, Array.replicate_zero, List.push_toArray, List.append_toArray, List.nil_append, List.cons_append]
  gi_wp2_with (fail)
  refine ⟨trivial, (callsIn_wide.2 Hck.out).mono ?_⟩
  rintro e w' ⟨rfl, rfl⟩
  gi_wp2_with (fail)
  rw [show (i : Int) + (n : Int) = ((i + n : Nat) : Int) by omega]
  refine ⟨trivial, (callsIn_wide.2 (up_ok 0 _ _ _ _)).mono ?_⟩
  rintro e0 w0 ⟨rfl, hw0⟩
  rw [World.size_alloc]
  have hk0 : Kept [] w w0 := by rw [hw0]; exact ((((Kept.refl [] w).alloc _).alloc _).alloc _).alloc _
  have hc0 : Has w0 w.heap.size 3 [.int .i64 0] := by rw [hw0]; exact (((Has.new w _ [.int .i64 0]).alloc _).alloc _).alloc _
  have hR : Reads (· = ws) w0 p q bs.length (w.heap.size + 1 + 1) (w.heap.size + 1 + 2) (w.heap.size + 1) i (i + n) := by
    refine ⟨HV.out.head.keep0 hk0, ⟨ws, rfl, HV.out.row.keep0 hk0⟩, ?_, ?_, ?_⟩
    · rw [hw0]
      have h := (Has.new ((w.alloc (.cells #[.int .i64 0] 3)).alloc (.cells #[.pointer (some ⟨p, 0, none⟩)] 70)) 3 [.int .i64 (i : Int)]).alloc (.cells #[.int .i64 ((i + n : Nat) : Int)] 3)
      rw [World.size_alloc, World.size_alloc] at h
      exact h
    · rw [hw0]
      have h := Has.new (((w.alloc (.cells #[.int .i64 0] 3)).alloc (.cells #[.pointer (some ⟨p, 0, none⟩)] 70)).alloc (.cells #[.int .i64 (i : Int)] 3)) 3 [.int .i64 ((i + n : Nat) : Int)]
      rw [World.size_alloc, World.size_alloc, World.size_alloc] at h
      exact h
    · rw [hw0]
      have h := ((Has.new (w.alloc (.cells #[.int .i64 0] 3)) 70 [.pointer (some ⟨p, 0, none⟩)]).alloc (.cells #[.int .i64 (i : Int)] 3)).alloc (.cells #[.int .i64 ((i + n : Nat) : Int)] 3)
      rw [World.size_alloc] at h
      exact h
  clear hw0
  have hpz : p < w.heap.size := HV.out.head.lt
  have hqz : q < w.heap.size := HV.out.row.lt
  have HR := Lib.hid hR
  have Hc0 := Lib.hid hc0
  have Hk0 := Lib.hid hk0
  clear hR hc0 hk0
  gi_wp2_with (fail)
  refine wpIn_rangeFunc_ownH rfl (by decide) (gf := 130) (lb := #[.pointer (some ⟨w.heap.size + 1 + 1, 0, none⟩), .pointer (some ⟨w.heap.size + 1 + 2, 0, none⟩), .pointer (some ⟨w.heap.size + 1, 0, none⟩)]) rfl trivial (enters_of Tryz.func130 (by kernel_rfl) rfl)
    (up_stops 4 (by decide) (· = ws) (good_of HV.out) [w.heap.size] p q bs.length (w.heap.size + 1 + 1) (w.heap.size + 1 + 2) (w.heap.size + 1) i (i + n) hf hin (by simp; omega) w0 (by simp; exact Hc0.out.lt) HR.out)
    (fun h k => h.trans k) (fun W l o o' _ h hc _ => Keeps.put W l o o' h hc) (Below.refl _ _) (fun _ => rfl)
    (fun pre W => Has W w.heap.size 3 [.int .i64 ((sumP pre : Nat) : Int)] ∧ Kept [] w W)
    (fun _ _ _ => False)
    (OwnFrom.and own_has (own_kept Hk0.out.more))
    (fun _ _ _ _ _ hs _ _ => hs)
    ⟨Hc0.out, Hk0.out⟩
    (fun x a' _ => a' = { tmps := #[.pointer (some ⟨p, 0, none⟩), .int .i64 i, .int .i64 n, undef, undef, undef, .int .i64 0, .int .i64 0, .int .i64 0, .pointer (some ⟨w.heap.size, 0, none⟩), undef, .int .u64 ((x.1.v : Nat) : Int), .pointer (some ⟨p, 0, none⟩), .int .i64 i, .int .i64 n, .int .i64 0, .int .i64 0, .bool false, undef, .pointer (some ⟨p, 0, none⟩), .int .i64 i, .int .i64 i, .int .i64 n, .int .i64 ((i : Int) + (n : Int)), .func (.func 130) #[] #[.pointer (some ⟨w.heap.size + 1 + 1, 0, none⟩), .pointer (some ⟨w.heap.size + 1 + 2, 0, none⟩), .pointer (some ⟨w.heap.size + 1, 0, none⟩)], pieceV x.1.k x.1.a x.1.n, .int .u64 ((x.1.v : Nat) : Int), undef, undef, undef, undef, undef], defers := [] })
    (fun _ _ _ _ _ _ hs _ _ => hs)
    ?assign ?body ?done ?stop
  case assign =>
    rintro l pre x W K hi hK
    unfold encs
    have HK := Lib.hid hK
    have HI := Lib.hid hi
    clear hi hK
    gi_wp2
    exact HK.out _ _ (KeepsFrom.refl _ _) (Keeps.of (CellsKept.of_kept (Kept.refl _ W)) (by simp; omega)) HI.out rfl
  case body =>
    rintro l pre x a' W _ _ ⟨hc, hk⟩ rfl hlen
    have hs := sumP_le pre
    have hsn := sumP_snoc pre x
    have ho := ones_le x.1.v 64
    have hx := x.2.2.2.2
    have cc := hc.cell 0
    have cf := hc.free 0
    simp at cc
    have hO : ∀ W, Calls Tryz.prog 99 #[.int .u64 ((x.1.v : Nat) : Int)] W fun e w' => e = .returned (.int .i64 ((ones x.1.v 64 : Nat) : Int)) ∧ ∃ k, w' = W.drewN k := fun W => by
      have := ones_any ((x.1.v : Nat) : Int) (by omega) (by omega) W
      unfold onesV at this
      rw [Int.toNat_natCast] at this
      exact this
    generalize ones x.1.v 64 = o at *
    obtain ⟨sm, hsm⟩ : ∃ sm, sm = sumP pre := ⟨_, rfl⟩
    rw [← hsm] at hs hsn cc hc
    have HO := Lib.hid hO
    have Hc := Lib.hid hc
    have Hk := Lib.hid hk
    have Hsn := Lib.hid hsn
    have hsb : sm ≤ 64 * 65536 := by omega
    clear hO hc hk hsn hsm hs hlen
    gi_wp2
    refine Rk.wpIn_head (r := some l) (C := fun w' => ∃ n, w' = W.drewN n) 4 (by kernel_rfl) (by kernel_rfl) ⟨1, rfl⟩ ?_
    simp only [List.take_succ_cons, List.take_zero, List.drop_succ_cons, List.drop_zero]
    repeat (quiet_step (exact Calls.quiet_of (HO.out _)))
    refine wpQuiet_nil ?_
    rintro _ ⟨nq, rfl⟩
    rw [← Rk.fence_round]
    gi_wp2
    have hKS : Kept [w.heap.size] W ((W.drewN nq).setCell ⟨w.heap.size, 0, none⟩ (.int .i64 ((sm : Int) + (o : Int)))) := ((Kept.refl _ W).drewN nq).setCell _ _ (.inl (by simp))
    refine ⟨keepsFrom_of hKS (fun b hb => by obtain rfl := List.mem_singleton.1 hb; exact ⟨_, _, Hc.out⟩), Keeps.of (CellsKept.of_kept hKS) (by simp; omega), ?_, (Hk.out.drewN nq).setCell _ _ (.inr (Nat.le_refl _))⟩
    have h := (Hc.out.drewN nq).put 0 (.int .i64 ((sm : Int) + (o : Int)))
    rw [Hsn.out, Int.natCast_add]
    exact h
  case done =>
    rintro D xs W hD ⟨t, hg, ht⟩ ⟨hc, hk⟩ hK
    have cc := hc.cell 0
    simp at cc
    have ht' := hg.le (by omega)
    have hsum := hg.sum HM.out hin (by omega)
    rw [show t - i = n by omega] at hsum
    have Hs := Lib.hid hsum
    have HKd := Lib.hid hK
    have Hk := Lib.hid hk
    clear hsum hK hk
    gi_wp2
    refine ⟨by simp, .inl ⟨_, _, rfl, run_takeDeferred HKd.out, ?_⟩⟩
    exact ⟨_, results_tmp2 rfl _ _ _, (by rw [← Hs.out]; rfl), kept_put Hk.out D _ (Nat.le_trans Hk0.out.more hD)⟩
  case stop =>
    rintro D c pre W _ _ h _
    exact h.elim
theorem count_no (bs : List Bool) (p q : Nat) (w : World) (hv : Bv w p q bs) (i n : Int) (i1 : -9223372036854775808 ≤ i) (i2 : i ≤ 9223372036854775807) (n1 : -9223372036854775808 ≤ n) (n2 : n ≤ 9223372036854775807) (hin : within bs.length i n = false) :
    Calls Tryz.prog 61 #[.pointer (some ⟨p, 0, none⟩), .int .i64 i, .int .i64 n] w fun e w' => e = .returned (.tuple #[.int .i64 0, .int .i64 2]) ∧ Kept [] w w' := by
  obtain ⟨ws, hV, hM⟩ := hv
  have hck := check_ok w hV i n i1 i2 n1 n2
  rw [hin] at hck
  have Hck : Hid (Calls Tryz.prog 97 #[.pointer (some ⟨p, 0, none⟩), .int .i64 i, .int .i64 n] w fun e w' => e = .returned (.int .i64 2) ∧ w = w') := Lib.hid hck
  clear hck hV hM hin
  go_enter Tryz.func61, Tryz.ntmps61
  go_wp2_with fail
  refine (Hck.out).mono ?_
  rintro e w' ⟨rfl, rfl⟩
  go_wp2_with fail
  go_ret2
  exact ⟨rfl, Kept.refl [] w⟩
/-- What Count answers. -/
def cntI (bs : List Bool) (i n : Int) : Int := if within bs.length i n then ((cnt (fun j => bit bs (i.toNat + j)) n.toNat : Nat) : Int) else 0
theorem count_ok (bs : List Bool) (p q : Nat) (w : World) (hv : Bv w p q bs) (i n : Int) (i1 : -9223372036854775808 ≤ i) (i2 : i ≤ 9223372036854775807) (n1 : -9223372036854775808 ≤ n) (n2 : n ≤ 9223372036854775807) :
    Calls Tryz.prog 61 #[.pointer (some ⟨p, 0, none⟩), .int .i64 i, .int .i64 n] w fun e w' => e = .returned (.tuple #[.int .i64 (cntI bs i n), .int .i64 (errOf (within bs.length i n))]) ∧ Kept [] w w' := by
  unfold cntI
  cases h : within bs.length i n with
  | true =>
    obtain ⟨a, b, c⟩ := (within_iff _ _ _).1 h
    have := count_yes bs p q w hv i.toNat n.toNat (by omega)
    rw [Int.toNat_of_nonneg a, Int.toNat_of_nonneg b] at this
    exact this
  | false => exact count_no bs p q w hv i n i1 i2 n1 n2 h
end Go.Proofs.YtoagghileebokaaGreatDoor.Bt
