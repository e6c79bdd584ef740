/-
  The loop over a vector's pieces, downwards: the contract of the function that down hands back.
-/
import Derived.Test.YtijlaganpnoefaaDoorBtUp
import Derived.Shelf.Abstract
import Derived.OwnWalkIn
import Derived.TacticsInMore
import Derived.LoopNIn
import Derived.LoopIn
import Derived.Lib.QuietBelow
namespace Go.Proofs.YtijlaganpnoefaaDoor.Bt
open Go.RowKit Go.Proofs.YtijlaganpnoefaaDoor.Ar Go.Proofs.YtijlaganpnoefaaDoor.Wd Go.Shelf Go.Sort
set_option linter.unusedVariables false
attribute [local go_sem] Oper.semAt_some

/-- The piece whose last bit is the bit c - 1. -/
def isAtD (G : List Int → Prop) (c : Nat) (x : Pc) : Prop :=
  x.k = (c - 1) / 64 ∧ x.a = 0 ∧ x.n = (c - 1) % 64 + 1 ∧ ∃ ws, G ws ∧ x.v = fld (ws.getD ((c - 1) / 64) 0).toNat x.a x.n
def Falls (G : List Int → Prop) {nw : Nat} : Nat → List (Pcs nw) → Nat → Prop
  | s, [], t => t = s
  | s, x :: xs, t => 0 < s ∧ isAtD G s x.1 ∧ Falls G (s - x.1.n) xs t
theorem Falls.snoc {G : List Int → Prop} {nw : Nat} {x : Pcs nw} : ∀ {xs : List (Pcs nw)} {s t : Nat}, Falls G s xs t → 0 < t → isAtD G t x.1 → Falls G s (xs ++ [x]) (t - x.1.n)
  | [], s, t, h, ht, hx => by
    have h' : t = s := h
    subst h'
    exact ⟨ht, hx, rfl⟩
  | y :: ys, s, t, ⟨h1, h2, h3⟩, ht, hx => ⟨h1, h2, Falls.snoc h3 ht hx⟩
theorem Falls.length {G : List Int → Prop} {nw : Nat} : ∀ {xs : List (Pcs nw)} {s t : Nat}, Falls G s xs t → xs.length + t ≤ s
  | [], s, t, h => by
    have h' : t = s := h
    simp
    omega
  | y :: ys, s, t, ⟨h1, ⟨_, _, h4, _⟩, h3⟩ => by
    have := Falls.length h3
    have := y.2.1
    rw [List.length_cons]
    omega
structure ReadsD (G : List Int → Prop) (W : World) (p q N bi bb : Nat) (i : Int) : Prop where
  head : Has W p 68 [.int .i64 (N : Int), .slice (some ⟨q, 0, none⟩) ((N + 63) / 64) 1024]
  row : ∃ ws, G ws ∧ Has W q 81 (ints ws)
  from' : Has W bi 3 [.int .i64 i]
  vec : Has W bb 47 [.pointer (some ⟨p, 0, none⟩)]
theorem ReadsD.keep0 {G : List Int → Prop} {W W' : World} {p q N bi bb : Nat} {i : Int} (h : ReadsD G W p q N bi bb i) (k : Kept [] W W') : ReadsD G W' p q N bi bb i :=
  ⟨h.head.keep0 k, let ⟨ws, hG, hq⟩ := h.row; ⟨ws, hG, hq.keep0 k⟩, h.from'.keep0 k, h.vec.keep0 k⟩
theorem ReadsD.kept {G : List Int → Prop} {S : List Nat} {W W' : World} {p q N bi bb : Nat} {i : Int} (h : ReadsD G W p q N bi bb i) (k : Keeps G S q W W') (h1 : p ∉ S) (h2 : bi ∉ S) (h4 : bb ∉ S) : ReadsD G W' p q N bi bb i :=
  ⟨k.1.has h1 h.head, k.2 h.row, k.1.has h2 h.from', k.1.has h4 h.vec⟩

theorem down1_in (n : Nat) (hn : 1 ≤ n) (G : List Int → Prop) (hG : Good G) (S : List Nat) (p q N bi bb : Nat) (i : Int) (hN : N ≤ 65536) (i1 : -9223372036854775808 ≤ i) (he : i < N) (hS : p ∉ S ∧ bi ∉ S ∧ bb ∉ S)
    (l : Nat) (J Jx : List (Pcs ((N + 63) / 64)) → World → Prop) (W : World) (hB : ∀ b ∈ S, b < W.heap.size) (hJ : AbidesFrom W.heap.size J)
    (hY : ∀ pre x W1, J pre W1 → pre.length < (i + 1).toNat → YieldAt Fence.wide (n - 1) Tryd.prog l (encs x) W1 fun e W' =>
      (e = .returned (.bool true) ∧ J (pre ++ [x]) W' ∧ Keeps G S q W1 W') ∨ (e = .returned (.bool false) ∧ Jx (pre ++ [x]) W'))
    (hR : ReadsD G W p q N bi bb i) (h0 : J [] W) :
    CallsIn Fence.wide n Tryd.prog 55 #[.func (.yield l) #[] #[], .pointer (some ⟨bi, 0, none⟩), .pointer (some ⟨bb, 0, none⟩)] W fun e' W' => (∃ v, e' = .returned v) ∧
      ((∃ xs, (Falls G (i + 1).toNat xs 0) ∧ J xs W') ∨ (∃ pre, (∃ t, Falls G (i + 1).toNat pre t) ∧ Jx pre W')) := by
  have ci := hR.from'.cell 0
  simp at ci
  have HR := Lib.hid hR
  have HJ := Lib.hid hJ
  have HY := Lib.hid hY
  have HG := Lib.hid hG
  have H0 := Lib.hid h0
  have HS := Lib.hid hS
  have HB := Lib.hid hB
  clear hR hJ hY hG h0 hS hB
  refine callsIn_of_wp Tryd.func55 rfl trivial ?_ rfl
  simp only [Tryd.ntmps55, List.size_toArray, List.length_cons, List.length_nil, Nat.reduceAdd, Nat.reduceSub, Array.replicate_succ, Array.replicate_zero, List.push_toArray, List.append_toArray, List.nil_append, List.cons_append]
  gi_wp2
  gi_loopw [4] (fun v wr => ∃ (pre : List (Pcs ((N + 63) / 64))) (z : Int), v = .int .i64 z ∧ (-9223372036854775808 ≤ z ∧ z < N) ∧ Hid (Falls G (i + 1).toNat pre (z + 1).toNat ∧ J pre wr ∧ ReadsD G wr p q N bi bb i ∧ W.heap.size ≤ wr.heap.size))
    (fun v _ => (intOf v + 1).toNat)
  case atStart => exact ⟨[], i, rfl, ⟨i1, he⟩, Lib.hid ⟨rfl, H0.out, HR.out, Nat.le_refl _⟩⟩
  case round =>
    obtain ⟨pre, z, rfl, ⟨z1, z2⟩, hrel⟩ := hrel
    by_cases hlt : 0 ≤ z
    · obtain ⟨t, rfl⟩ := Int.eq_ofNat_of_zero_le hlt
      have Hp := Lib.hid (partsOf_ok t (by omega) wr)
      obtain ⟨a, ha⟩ : ∃ a, a = t % 64 := ⟨_, rfl⟩
      obtain ⟨k, hk⟩ : ∃ k, k = t / 64 := ⟨_, rfl⟩
      rw [← ha, ← hk] at Hp
      have ha64 : a < 64 := by omega
      have Ha := Lib.hid ha
      have Hk := Lib.hid hk
      have hkb : k ≤ 65536 := by omega
      obtain ⟨m, hm⟩ : ∃ m, m = a + 1 := ⟨_, rfl⟩
      have hm0 : 1 ≤ m := by omega
      have ham : 0 + m ≤ 64 := by omega
      have Em := Lib.hid (show (a : Int) + 1 = (m : Int) by omega)
      have Hm := Lib.hid hm
      clear ha hk hm
      gi_wp2_with (fail)
      refine ⟨trivial, (callsIn_wide.2 Hp.out).mono ?_⟩
      rintro e1 w1 ⟨rfl, hk1⟩
      have R1 := Lib.hid (hrel.out.2.2.1.keep0 hk1)
      have Hk1 := Lib.hid hk1
      clear hk1
      gi_wp2_with (fail)
      rw [Em.out]
      have hk10 : Kept [] w1 (w1.alloc (.cells #[.int .i64 (k : Int), .int .i64 (a : Int)] 75)) := (Kept.refl [] w1).alloc _
      rw [show w1.heap.size + 1 = (w1.alloc (.cells #[.int .i64 (k : Int), .int .i64 (a : Int)] 75)).heap.size from (World.size_alloc _ _).symm]
      generalize w1.alloc (.cells #[.int .i64 (k : Int), .int .i64 (a : Int)] 75) = w10 at hk10 ⊢
      have hb2 : Has (w10.alloc (.cells #[.int .i64 (k : Int), .int .i64 0, .int .i64 (m : Int)] 77)) w10.heap.size 77 [.int .i64 (k : Int), .int .i64 0, .int .i64 (m : Int)] := Has.new w10 _ _
      have hk2 : Kept [] w1 (w10.alloc (.cells #[.int .i64 (k : Int), .int .i64 0, .int .i64 (m : Int)] 77)) := hk10.alloc _
      generalize w10.alloc (.cells #[.int .i64 (k : Int), .int .i64 0, .int .i64 (m : Int)] 77) = w2 at *
      generalize hB : w10.heap.size = B at hb2 ⊢
      have hBw := Lib.hid (show w1.heap.size ≤ B by have := hk10.more; omega)
      clear hB hk10
      obtain ⟨ws, hGw, hws⟩ := (R1.out.keep0 hk2).row
      have hv2 : Vec w2 p q N ws := ⟨(R1.out.keep0 hk2).head, hws, (HG.out ws hGw).1, hN, (HG.out ws hGw).2⟩
      have hkn : k < (N + 63) / 64 := by have := Hk.out; omega
      have b0 := cell_regrown (show w2.cell? ⟨B, 0, none⟩ = some (.int .i64 (k : Int)) from hb2.cell 0)
      have b1 := cell_regrown (show w2.cell? ⟨B, 1, none⟩ = some (.int .i64 0) from hb2.cell 1)
      have b2 := cell_regrown (show w2.cell? ⟨B, 2, none⟩ = some (.int .i64 (m : Int)) from hb2.cell 2)
      have bv := cell_regrown (show w2.cell? ⟨bb, 0, none⟩ = some (.pointer (some ⟨p, 0, none⟩)) from (R1.out.keep0 hk2).vec.cell 0)
      have cC : ∀ d os, Calls Tryd.prog 50 #[.pointer (some ⟨p, 0, none⟩), pieceV k 0 m] (grow (redrawn w2 d) os) fun e w'' => e = .returned (.int .u64 ((fld (ws.getD k 0).toNat 0 m : Nat) : Int)) ∧ ∃ p : Regrown, w'' = grow (redrawn w2 p.d) p.os :=
        fun d os => Calls.regrown_of ((cut_ok _ (hv2.keep0 (Kept.ofBelow (below_regrown w2 d os) [])) k 0 m hkn hm0 ham).mono fun _ _ ⟨he, hk⟩ => ⟨he, hk.below (Nat.le_refl _) (by simp)⟩)
      unfold pieceV at cC
      obtain ⟨x, hx⟩ : ∃ x, x = fld (ws.getD k 0).toNat 0 m := ⟨_, rfl⟩
      rw [← hx] at cC
      have hfl : x < 2 ^ m := by rw [hx]; exact fld_lt _ 0 m
      have hpw : 2 ^ m ≤ 18446744073709551616 := Nat.pow_le_pow_right (n := 2) (by decide) (show m ≤ 64 by omega)
      have hok : Pc.ok ((N + 63) / 64) ⟨k, 0, m, x⟩ := ⟨hm0, ham, hkn, show x < _ by omega⟩
      have HX := Lib.hid hx
      clear hx hfl hpw
      have CC := Lib.hid cC
      have Hb2 := Lib.hid hb2
      have Hv2 := Lib.hid hv2
      have Hk2 := Lib.hid hk2
      have Hws := Lib.hid hws
      have HGw := Lib.hid hGw
      clear cC hb2 hv2 hk2 hws hGw Em
      refine Rk.wpIn_head (r := none) (C := fun w' => ∃ p : Regrown, w' = grow (redrawn w2 p.d) p.os) 5 (by kernel_rfl) (by kernel_rfl) ⟨⟨w2.drawn + 1, #[]⟩, by rw [grow_empty]; rfl⟩ ?_
      simp only [List.take_succ_cons, List.take_zero, List.drop_succ_cons, List.drop_zero]
      repeat (quiet_step (exact CC.out _ _))
      refine wpQuiet_nil ?_
      rintro _ ⟨⟨dq, osq⟩, rfl⟩
      rw [Rk.fence_none]
      have hk3 := Kept.ofBelow (below_regrown w2 dq osq) []
      show wpListIn _ _ _ _ _ _ _ (grow (redrawn w2 dq) osq)
      generalize grow (redrawn w2 dq) osq = w3 at hk3 ⊢
      have hk03 := (Hk1.out.trans Hk2.out).trans hk3
      have hlen : pre.length < (i + 1).toNat := by have := hrel.out.1.length; omega
      have Hx : Hid (isAtD G (t + 1) ⟨k, 0, m, x⟩) := Lib.hid ⟨Hk.out, rfl, by have := Hm.out; have := Ha.out; show m = t % 64 + 1; omega, ws, HGw.out, by show x = fld (ws.getD (t / 64) 0).toNat 0 m; rw [← Hk.out]; exact HX.out⟩
      obtain ⟨fn, tmps, assign, body, hy, hR⟩ := HY.out pre ⟨⟨k, 0, m, x⟩, hok⟩ w3
        (HJ.out pre wr w3 none hrel.out.2.1 ⟨hk03.os, hk03.tape, hk03.out, hk03.more, fun j hj _ => hk03.old j hj (by simp)⟩ (fun r h => by cases h)) hlen
      dsimp only [encs, pieceV] at hy
      rw [show ((0 : Nat) : Int) = 0 from rfl] at hy
      have hsn : Hid (Falls G (i + 1).toNat (pre ++ [⟨⟨k, 0, m, x⟩, hok⟩]) ((t : Int) - m + 1).toNat) := Lib.hid (by
        have h1 := Falls.snoc (x := ⟨⟨k, 0, m, x⟩, hok⟩) hrel.out.1 (by omega) (by rw [show ((t : Int) + 1).toNat = t + 1 by omega]; exact Hx.out)
        rw [show ((t : Int) + 1).toNat - m = ((t : Int) - m + 1).toNat by have := Ha.out; have := Hm.out; omega] at h1
        exact h1)
      have hma : m ≤ t + 1 := by have := Ha.out; have := Hm.out; omega
      clear hlen b0 b1 b2 bv
      have HbS : Hid (B ∉ S ∧ W.heap.size ≤ B) := Lib.hid ⟨fun hb => by have h1 := HB.out B hb; have h2 := hrel.out.2.2.2; have h3 := hBw.out; have h4 := Hk1.out.more; omega, by have h2 := hrel.out.2.2.2; have h3 := hBw.out; have h4 := Hk1.out.more; omega⟩
      have Hk3 := Lib.hid hk3
      have Hk03 := Lib.hid hk03
      clear hk3 hk03
      gi_wp2_with (fail)
      refine hR.mono ?_
      rintro e3 W3 (⟨rfl, hJ3, hkp⟩ | ⟨rfl, hJx⟩)
      · have hb3 : Has W3 B 77 [.int .i64 (k : Int), .int .i64 0, .int .i64 (m : Int)] := hkp.1.has HbS.out.1 (Hb2.out.keep0 Hk3.out)
        have c3 := hb3.cell 2
        simp at c3
        have HRel : Hid (Falls G (i + 1).toNat (pre ++ [⟨⟨k, 0, m, x⟩, hok⟩]) ((t : Int) - m + 1).toNat ∧ J (pre ++ [⟨⟨k, 0, m, x⟩, hok⟩]) W3 ∧ ReadsD G W3 p q N bi bb i ∧ W.heap.size ≤ W3.heap.size) :=
          Lib.hid ⟨hsn.out, hJ3, (hrel.out.2.2.1.keep0 Hk03.out).kept hkp HS.out.1 HS.out.2.1 HS.out.2.2, by have h1 := hrel.out.2.2.2; have h2 := Hk03.out.more; have h3 := hkp.1.size; omega⟩
        clear hJ3 hkp hb3
        gi_wp2_with (fail)
        go_roundw
        case rel => exact ⟨_, (t : Int) - m, rfl, by omega, HRel⟩
        case measure => simp [intOf]; omega
      · gi_wp2_with (fail)
        refine bodyPost_ret (results_none rfl _ _ _) rfl ?_
        exact ⟨⟨_, rfl⟩, .inr ⟨_, ⟨_, hsn.out⟩, hJx⟩⟩
    · gi_wp2_with (fail)
      go_end0
      exact ⟨⟨_, rfl⟩, .inl ⟨pre, by have h1 := hrel.out.1; rw [show (z + 1).toNat = 0 by omega] at h1; exact h1, hrel.out.2.1⟩⟩

theorem down_stops (n : Nat) (hn : 1 ≤ n) (G : List Int → Prop) (hG : Good G) (S : List Nat) (p q N bi bb : Nat) (i : Int) (hN : N ≤ 65536) (i1 : -9223372036854775808 ≤ i) (he : i < N) (hS : p ∉ S ∧ bi ∉ S ∧ bb ∉ S) (w : World) (hB : ∀ b ∈ S, b < w.heap.size) (hR : ReadsD G w p q N bi bb i) :
    SeqStopsK Fence.wide n Tryd.prog 55 #[.pointer (some ⟨bi, 0, none⟩), .pointer (some ⟨bb, 0, none⟩)] (encs (nw := (N + 63) / 64)) (Keeps G S q) (fun xs => Falls G (i + 1).toNat xs 0) (fun pre => ∃ t, Falls G (i + 1).toNat pre t) (i + 1).toNat w :=
  fun l J Jx W hW hJ _ hY h0 => down1_in n hn G hG S p q N bi bb i hN i1 he hS l J Jx W (fun b hb => Nat.lt_of_lt_of_le (hB b hb) hW.size) hJ hY (hR.keep0 (Kept.ofBelow hW [])) h0
end Go.Proofs.YtijlaganpnoefaaDoor.Bt
