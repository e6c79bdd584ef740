/-
  Several texts in one: BtDown, BtCount, BtSeek, BtNil.
-/
import Derived.Test.YtagmmbkgjomdlaaGreatDoorG03
import Derived.Shelf.Abstract
import Derived.OwnWalkIn
import Derived.TacticsInMore
import Derived.LoopNIn
import Derived.LoopIn
import Derived.Lib.QuietBelow
import Derived.Test.YtagmmbkgjomdlaaGreatDoorG02
/-
  The loop over a vector's pieces, downwards: the contract of the function that down hands back.
-/
namespace Go.Proofs.YtagmmbkgjomdlaaGreatDoor.Bt
open Go.RowKit Go.Proofs.YtagmmbkgjomdlaaGreatDoor.Ar Go.Proofs.YtagmmbkgjomdlaaGreatDoor.Wd Go.Shelf Go.Sort
set_option linter.unusedVariables false
attribute [local go_sem] Oper.semAt_some

/-- The piece whose last bit is the bit c - 1. -/
def isAtD (G : List Int → Prop) (c : Nat) (x : Pc) : Prop :=
  x.k = (c - 1) / 64 ∧ x.a = 0 ∧ x.n = (c - 1) % 64 + 1 ∧ ∃ ws, G ws ∧ x.v = fld (ws.getD ((c - 1) / 64) 0).toNat x.a x.n
def Falls (G : List Int → Prop) {nw : Nat} : Nat → List (Pcs nw) → Nat → Prop
  | s, [], t => t = s
  | s, x :: xs, t => 0 < s ∧ isAtD G s x.1 ∧ Falls G (s - x.1.n) xs t
theorem Falls.snoc {G : List Int → Prop} {nw : Nat} {x : Pcs nw} : ∀ {xs : List (Pcs nw)} {s t : Nat}, Falls G s xs t → 0 < t → isAtD G t x.1 → Falls G s (xs ++ [x]) (t - x.1.n)
  | [], s, t, h, ht, hx => by
    have h' : t = s := h
    subst h'
    exact ⟨ht, hx, rfl⟩
  | y :: ys, s, t, ⟨h1, h2, h3⟩, ht, hx => ⟨h1, h2, Falls.snoc h3 ht hx⟩
theorem Falls.length {G : List Int → Prop} {nw : Nat} : ∀ {xs : List (Pcs nw)} {s t : Nat}, Falls G s xs t → xs.length + t ≤ s
  | [], s, t, h => by
    have h' : t = s := h
    simp
    omega
  | y :: ys, s, t, ⟨h1, ⟨_, _, h4, _⟩, h3⟩ => by
    have := Falls.length h3
    have := y.2.1
    rw [List.length_cons]
    omega
structure ReadsD (G : List Int → Prop) (W : World) (p q N bi bb : Nat) (i : Int) : Prop where
  head : Has W p 183 [.int .i64 (N : Int), .slice (some ⟨q, 0, none⟩) ((N + 63) / 64) 1024]
  row : ∃ ws, G ws ∧ Has W q 217 (ints ws)
  from' : Has W bi 3 [.int .i64 i]
  vec : Has W bb 66 [.pointer (some ⟨p, 0, none⟩)]
theorem ReadsD.keep0 {G : List Int → Prop} {W W' : World} {p q N bi bb : Nat} {i : Int} (h : ReadsD G W p q N bi bb i) (k : Kept [] W W') : ReadsD G W' p q N bi bb i :=
  ⟨h.head.keep0 k, let ⟨ws, hG, hq⟩ := h.row; ⟨ws, hG, hq.keep0 k⟩, h.from'.keep0 k, h.vec.keep0 k⟩
theorem ReadsD.kept {G : List Int → Prop} {S : List Nat} {W W' : World} {p q N bi bb : Nat} {i : Int} (h : ReadsD G W p q N bi bb i) (k : Keeps G S q W W') (h1 : p ∉ S) (h2 : bi ∉ S) (h4 : bb ∉ S) : ReadsD G W' p q N bi bb i :=
  ⟨k.1.has h1 h.head, k.2 h.row, k.1.has h2 h.from', k.1.has h4 h.vec⟩

theorem down1_in (n : Nat) (hn : 1 ≤ n) (G : List Int → Prop) (hG : Good G) (S : List Nat) (p q N bi bb : Nat) (i : Int) (hN : N ≤ 65536) (i1 : -9223372036854775808 ≤ i) (he : i < N) (hS : p ∉ S ∧ bi ∉ S ∧ bb ∉ S)
    (l : Nat) (J Jx : List (Pcs ((N + 63) / 64)) → World → Prop) (W : World) (hB : ∀ b ∈ S, b < W.heap.size) (hJ : AbidesFrom W.heap.size J)
    (hY : ∀ pre x W1, J pre W1 → pre.length < (i + 1).toNat → YieldAt Fence.wide (n - 1) Tryz.prog l (encs x) W1 fun e W' =>
      (e = .returned (.bool true) ∧ J (pre ++ [x]) W' ∧ Keeps G S q W1 W') ∨ (e = .returned (.bool false) ∧ Jx (pre ++ [x]) W'))
    (hR : ReadsD G W p q N bi bb i) (h0 : J [] W) :
    CallsIn Fence.wide n Tryz.prog 160 #[.func (.yield l) #[] #[], .pointer (some ⟨bi, 0, none⟩), .pointer (some ⟨bb, 0, none⟩)] W fun e' W' => (∃ v, e' = .returned v) ∧
      ((∃ xs, (Falls G (i + 1).toNat xs 0) ∧ J xs W') ∨ (∃ pre, (∃ t, Falls G (i + 1).toNat pre t) ∧ Jx pre W')) := by
  have ci := hR.from'.cell 0
  simp at ci
  have HR := Lib.hid hR
  have HJ := Lib.hid hJ
  have HY := Lib.hid hY
  have HG := Lib.hid hG
  have H0 := Lib.hid h0
  have HS := Lib.hid hS
  have HB := Lib.hid hB
  clear hR hJ hY hG h0 hS hB
  refine callsIn_of_wp Tryz.func160 rfl trivial ?_ rfl
  simp only [Tryz.ntmps160, List.size_toArray, List.length_cons, List.length_nil, Nat.reduceAdd, Nat.reduceSub, Array.replicate_succ, Array.replicate_zero, List.push_toArray, List.append_toArray, List.nil_append, List.cons_append]
  gi_wp2
  gi_loopw [4] (fun v wr => ∃ (pre : List (Pcs ((N + 63) / 64))) (z : Int), v = .int .i64 z ∧ (-9223372036854775808 ≤ z ∧ z < N) ∧ Hid (Falls G (i + 1).toNat pre (z + 1).toNat ∧ J pre wr ∧ ReadsD G wr p q N bi bb i ∧ W.heap.size ≤ wr.heap.size))
    (fun v _ => (intOf v + 1).toNat)
  case atStart => exact ⟨[], i, rfl, ⟨i1, he⟩, Lib.hid ⟨rfl, H0.out, HR.out, Nat.le_refl _⟩⟩
  case round =>
    obtain ⟨pre, z, rfl, ⟨z1, z2⟩, hrel⟩ := hrel
    by_cases hlt : 0 ≤ z
    · obtain ⟨t, rfl⟩ := Int.eq_ofNat_of_zero_le hlt
      have Hp := Lib.hid (partsOf_ok t (by omega) wr)
      obtain ⟨a, ha⟩ : ∃ a, a = t % 64 := ⟨_, rfl⟩
      obtain ⟨k, hk⟩ : ∃ k, k = t / 64 := ⟨_, rfl⟩
      rw [← ha, ← hk] at Hp
      have ha64 : a < 64 := by omega
      have Ha := Lib.hid ha
      have Hk := Lib.hid hk
      have hkb : k ≤ 65536 := by omega
      obtain ⟨m, hm⟩ : ∃ m, m = a + 1 := ⟨_, rfl⟩
      have hm0 : 1 ≤ m := by omega
      have ham : 0 + m ≤ 64 := by omega
      have Em := Lib.hid (show (a : Int) + 1 = (m : Int) by omega)
      have Hm := Lib.hid hm
      clear ha hk hm
      gi_wp2_with (fail)
      refine ⟨trivial, (callsIn_wide.2 Hp.out).mono ?_⟩
      rintro e1 w1 ⟨rfl, hk1⟩
      have R1 := Lib.hid (hrel.out.2.2.1.keep0 hk1)
      have Hk1 := Lib.hid hk1
      clear hk1
      gi_wp2_with (fail)
      rw [Em.out]
      have hk10 : Kept [] w1 (w1.alloc (.cells #[.int .i64 (k : Int), .int .i64 (a : Int)] 128)) := (Kept.refl [] w1).alloc _
      rw [show w1.heap.size + 1 = (w1.alloc (.cells #[.int .i64 (k : Int), .int .i64 (a : Int)] 128)).heap.size from (World.size_alloc _ _).symm]
      generalize w1.alloc (.cells #[.int .i64 (k : Int), .int .i64 (a : Int)] 128) = w10 at hk10 ⊢
      have hb2 : Has (w10.alloc (.cells #[.int .i64 (k : Int), .int .i64 0, .int .i64 (m : Int)] 131)) w10.heap.size 131 [.int .i64 (k : Int), .int .i64 0, .int .i64 (m : Int)] := Has.new w10 _ _
      have hk2 : Kept [] w1 (w10.alloc (.cells #[.int .i64 (k : Int), .int .i64 0, .int .i64 (m : Int)] 131)) := hk10.alloc _
      generalize w10.alloc (.cells #[.int .i64 (k : Int), .int .i64 0, .int .i64 (m : Int)] 131) = w2 at *
      generalize hB : w10.heap.size = B at hb2 ⊢
      have hBw := Lib.hid (show w1.heap.size ≤ B by have := hk10.more; omega)
      clear hB hk10
      obtain ⟨ws, hGw, hws⟩ := (R1.out.keep0 hk2).row
      have hv2 : Vec w2 p q N ws := ⟨(R1.out.keep0 hk2).head, hws, (HG.out ws hGw).1, hN, (HG.out ws hGw).2⟩
      have hkn : k < (N + 63) / 64 := by have := Hk.out; omega
      have b0 := cell_regrown (show w2.cell? ⟨B, 0, none⟩ = some (.int .i64 (k : Int)) from hb2.cell 0)
      have b1 := cell_regrown (show w2.cell? ⟨B, 1, none⟩ = some (.int .i64 0) from hb2.cell 1)
      have b2 := cell_regrown (show w2.cell? ⟨B, 2, none⟩ = some (.int .i64 (m : Int)) from hb2.cell 2)
      have bv := cell_regrown (show w2.cell? ⟨bb, 0, none⟩ = some (.pointer (some ⟨p, 0, none⟩)) from (R1.out.keep0 hk2).vec.cell 0)
      have cC : ∀ d os, Calls Tryz.prog 62 #[.pointer (some ⟨p, 0, none⟩), pieceV k 0 m] (grow (redrawn w2 d) os) fun e w'' => e = .returned (.int .u64 ((fld (ws.getD k 0).toNat 0 m : Nat) : Int)) ∧ ∃ p : Regrown, w'' = grow (redrawn w2 p.d) p.os :=
        fun d os => Calls.regrown_of ((cut_ok _ (hv2.keep0 (Kept.ofBelow (below_regrown w2 d os) [])) k 0 m hkn hm0 ham).mono fun _ _ ⟨he, hk⟩ => ⟨he, hk.below (Nat.le_refl _) (by simp)⟩)
      unfold pieceV at cC
      obtain ⟨x, hx⟩ : ∃ x, x = fld (ws.getD k 0).toNat 0 m := ⟨_, rfl⟩
      rw [← hx] at cC
      have hfl : x < 2 ^ m := by rw [hx]; exact fld_lt _ 0 m
      have hpw : 2 ^ m ≤ 18446744073709551616 := Nat.pow_le_pow_right (n := 2) (by decide) (show m ≤ 64 by omega)
      have hok : Pc.ok ((N + 63) / 64) ⟨k, 0, m, x⟩ := ⟨hm0, ham, hkn, show x < _ by omega⟩
      have HX := Lib.hid hx
      clear hx hfl hpw
      have CC := Lib.hid cC
      have Hb2 := Lib.hid hb2
      have Hv2 := Lib.hid hv2
      have Hk2 := Lib.hid hk2
      have Hws := Lib.hid hws
      have HGw := Lib.hid hGw
      clear cC hb2 hv2 hk2 hws hGw Em
      refine Rk.wpIn_head (r := none) (C := fun w' => ∃ p : Regrown, w' = grow (redrawn w2 p.d) p.os) 5 (by kernel_rfl) (by kernel_rfl) ⟨⟨w2.drawn + 1, #[]⟩, by rw [grow_empty]; rfl⟩ ?_
      simp only [List.take_succ_cons, List.take_zero, List.drop_succ_cons, List.drop_zero]
      repeat (quiet_step (exact CC.out _ _))
      refine wpQuiet_nil ?_
      rintro _ ⟨⟨dq, osq⟩, rfl⟩
      rw [Rk.fence_none]
      have hk3 := Kept.ofBelow (below_regrown w2 dq osq) []
      show wpListIn _ _ _ _ _ _ _ (grow (redrawn w2 dq) osq)
      generalize grow (redrawn w2 dq) osq = w3 at hk3 ⊢
      have hk03 := (Hk1.out.trans Hk2.out).trans hk3
      have hlen : pre.length < (i + 1).toNat := by have := hrel.out.1.length; omega
      have Hx : Hid (isAtD G (t + 1) ⟨k, 0, m, x⟩) := Lib.hid ⟨Hk.out, rfl, by have := Hm.out; have := Ha.out; show m = t % 64 + 1; omega, ws, HGw.out, by show x = fld (ws.getD (t / 64) 0).toNat 0 m; rw [← Hk.out]; exact HX.out⟩
      obtain ⟨fn, tmps, assign, body, hy, hR⟩ := HY.out pre ⟨⟨k, 0, m, x⟩, hok⟩ w3
        (HJ.out pre wr w3 none hrel.out.2.1 ⟨hk03.os, hk03.tape, hk03.out, hk03.more, fun j hj _ => hk03.old j hj (by simp)⟩ (fun r h => by cases h)) hlen
      dsimp only [encs, pieceV] at hy
      rw [show ((0 : Nat) : Int) = 0 from rfl] at hy
      have hsn : Hid (Falls G (i + 1).toNat (pre ++ [⟨⟨k, 0, m, x⟩, hok⟩]) ((t : Int) - m + 1).toNat) := Lib.hid (by
        have h1 := Falls.snoc (x := ⟨⟨k, 0, m, x⟩, hok⟩) hrel.out.1 (by omega) (by rw [show ((t : Int) + 1).toNat = t + 1 by omega]; exact Hx.out)
        rw [show ((t : Int) + 1).toNat - m = ((t : Int) - m + 1).toNat by have := Ha.out; have := Hm.out; omega] at h1
        exact h1)
      have hma : m ≤ t + 1 := by have := Ha.out; have := Hm.out; omega
      clear hlen b0 b1 b2 bv
      have HbS : Hid (B ∉ S ∧ W.heap.size ≤ B) := Lib.hid ⟨fun hb => by have h1 := HB.out B hb; have h2 := hrel.out.2.2.2; have h3 := hBw.out; have h4 := Hk1.out.more; omega, by have h2 := hrel.out.2.2.2; have h3 := hBw.out; have h4 := Hk1.out.more; omega⟩
      have Hk3 := Lib.hid hk3
      have Hk03 := Lib.hid hk03
      clear hk3 hk03
      gi_wp2_with (fail)
      refine hR.mono ?_
      rintro e3 W3 (⟨rfl, hJ3, hkp⟩ | ⟨rfl, hJx⟩)
      · have hb3 : Has W3 B 131 [.int .i64 (k : Int), .int .i64 0, .int .i64 (m : Int)] := hkp.1.has HbS.out.1 (Hb2.out.keep0 Hk3.out)
        have c3 := hb3.cell 2
        simp at c3
        have HRel : Hid (Falls G (i + 1).toNat (pre ++ [⟨⟨k, 0, m, x⟩, hok⟩]) ((t : Int) - m + 1).toNat ∧ J (pre ++ [⟨⟨k, 0, m, x⟩, hok⟩]) W3 ∧ ReadsD G W3 p q N bi bb i ∧ W.heap.size ≤ W3.heap.size) :=
          Lib.hid ⟨hsn.out, hJ3, (hrel.out.2.2.1.keep0 Hk03.out).kept hkp HS.out.1 HS.out.2.1 HS.out.2.2, by have h1 := hrel.out.2.2.2; have h2 := Hk03.out.more; have h3 := hkp.1.size; omega⟩
        clear hJ3 hkp hb3
        gi_wp2_with (fail)
        go_roundw
        case rel => exact ⟨_, (t : Int) - m, rfl, by omega, HRel⟩
        case measure => simp [intOf]; omega
      · gi_wp2_with (fail)
        refine bodyPost_ret (results_none rfl _ _ _) rfl ?_
        exact ⟨⟨_, rfl⟩, .inr ⟨_, ⟨_, hsn.out⟩, hJx⟩⟩
    · gi_wp2_with (fail)
      go_end0
      exact ⟨⟨_, rfl⟩, .inl ⟨pre, by have h1 := hrel.out.1; rw [show (z + 1).toNat = 0 by omega] at h1; exact h1, hrel.out.2.1⟩⟩

theorem down_stops (n : Nat) (hn : 1 ≤ n) (G : List Int → Prop) (hG : Good G) (S : List Nat) (p q N bi bb : Nat) (i : Int) (hN : N ≤ 65536) (i1 : -9223372036854775808 ≤ i) (he : i < N) (hS : p ∉ S ∧ bi ∉ S ∧ bb ∉ S) (w : World) (hB : ∀ b ∈ S, b < w.heap.size) (hR : ReadsD G w p q N bi bb i) :
    SeqStopsK Fence.wide n Tryz.prog 160 #[.pointer (some ⟨bi, 0, none⟩), .pointer (some ⟨bb, 0, none⟩)] (encs (nw := (N + 63) / 64)) (Keeps G S q) (fun xs => Falls G (i + 1).toNat xs 0) (fun pre => ∃ t, Falls G (i + 1).toNat pre t) (i + 1).toNat w :=
  fun l J Jx W hW hJ _ hY h0 => down1_in n hn G hG S p q N bi bb i hN i1 he hS l J Jx W (fun b hb => Nat.lt_of_lt_of_le (hB b hb) hW.size) hJ hY (hR.keep0 (Kept.ofBelow hW [])) h0
end Go.Proofs.YtagmmbkgjomdlaaGreatDoor.Bt

/-
  The contract of Count.
-/
namespace Go.Proofs.YtagmmbkgjomdlaaGreatDoor.Bt
open Go.RowKit Go.Proofs.YtagmmbkgjomdlaaGreatDoor.Ar Go.Proofs.YtagmmbkgjomdlaaGreatDoor.Wd Go.Shelf Go.Sort
set_option linter.unusedVariables false
attribute [local go_sem] Oper.semAt_some

/-- A vector at p, its words at q, with these bits. -/
def Bv (w : World) (p q : Nat) (bs : List Bool) : Prop := ∃ ws, Vec w p q bs.length ws ∧ Means bs ws
theorem Bv.kept {S : List Nat} {w w' : World} {p q : Nat} {bs : List Bool} (h : Bv w p q bs) (k : Kept S w w') (hp : p ∉ S) (hq : q ∉ S) : Bv w' p q bs := let ⟨ws, a, b⟩ := h; ⟨ws, a.kept k hp hq, b⟩
theorem Bv.keep0 {w w' : World} {p q : Nat} {bs : List Bool} (h : Bv w p q bs) (k : Kept [] w w') : Bv w' p q bs := h.kept k (by simp) (by simp)

/-- What all pieces' bits come to. -/
def sumP {nw : Nat} (xs : List (Pcs nw)) : Nat := (xs.map fun x => ones x.1.v 64).sum
/-- Of all pieces from s on it is the count. -/
theorem Goes.sum {bs : List Bool} {ws : List Int} (h : Means bs ws) {e : Nat} (he : e ≤ bs.length) {nw : Nat} : ∀ {xs : List (Pcs nw)} {s t : Nat}, Goes (· = ws) e s xs t → s ≤ e → sumP xs = cnt (fun j => bit bs (s + j)) (t - s)
  | [], s, t, hg, _ => by
    have h' : t = s := hg
    subst h'
    rw [Nat.sub_self]
    rfl
  | x :: xs, s, t, ⟨h1, ⟨h2, h3, h4, ws', h5, h6⟩, h7⟩, hs => by
    subst h5
    have ih := Goes.sum h he h7 (by omega)
    have ht := Goes.length h7
    have e1 : sumP (x :: xs) = ones x.1.v 64 + sumP xs := by simp [sumP]
    have hn := x.2.1
    rw [e1, ih, h6, h3, h.count s x.1.n (by omega) (by omega), show t - s = x.1.n + (t - (s + x.1.n)) by omega, cnt_add]
    congr 1
    exact cnt_congr _ fun j _ => by rw [Nat.add_assoc]

theorem good_of {w : World} {p q n : Nat} {ws : List Int} (h : Vec w p q n ws) : Good (· = ws) := fun ws' e => by subst e; exact ⟨h.len, h.word⟩

theorem kept_put {w W : World} (h : Kept [] w W) (D : Nat) (o : Obj) (hD : w.heap.size ≤ D) : Kept [] w (W.putObj D o) :=
  h.grown (grownBy_putObj' W D o) fun g e => .inr (by injection e with e; omega)

end Go.Proofs.YtagmmbkgjomdlaaGreatDoor.Bt

/-
  The contracts of seek, Next and NextClear.
-/
namespace Go.Proofs.YtagmmbkgjomdlaaGreatDoor.Bt
open Go.RowKit Go.Proofs.YtagmmbkgjomdlaaGreatDoor.Ar Go.Proofs.YtagmmbkgjomdlaaGreatDoor.Wd Go.Shelf Go.Sort
set_option linter.unusedVariables false
attribute [local go_sem] Oper.semAt_some

/-- Where the lowest bit of a piece is that is other than those of m. -/
def lowX (m : Nat) (x : Pc) : Nat := lowFrom (x.v ^^^ m) 0 64
def hit (m : Nat) (x : Pc) : Prop := lowX m x < x.n
/-- The bits that are other than those of m. -/
def other (bs : List Bool) (m : Nat) (j : Nat) : Bool := bit bs j == decide (m = 0)
theorem piece_bit {bs : List Bool} {ws : List Int} (h : Means bs ws) {m : Nat} (hm : m = 0 ∨ m = 18446744073709551615) {e s : Nat} (he : e ≤ bs.length) {x : Pc} (hx : isAt (· = ws) e s x) (hse : s < e) (hn : x.a + x.n ≤ 64) (j : Nat) (hj : j < x.n) :
    (x.v ^^^ m).testBit j = other bs m (s + j) := by
  obtain ⟨h2, h3, h4, ws', h5, h6⟩ := hx
  subst h5
  rw [flip_bit _ _ _ (by omega) hm, h6, h3, h.field s x.n j (by omega) (by omega) hj]
  rfl
theorem Goes.miss {bs : List Bool} {ws : List Int} (h : Means bs ws) {m : Nat} (hm : m = 0 ∨ m = 18446744073709551615) {e : Nat} (he : e ≤ bs.length) {nw : Nat} : ∀ {xs : List (Pcs nw)} {s t : Nat}, Goes (· = ws) e s xs t → (∀ x ∈ xs, ¬ hit m x.1) → ∀ j, s ≤ j → j < t → other bs m j = false
  | [], s, t, hg, _, j, h1, h2 => by
    have h' : t = s := hg
    omega
  | x :: xs, s, t, ⟨h1, h2, h7⟩, ha, j, j1, j2 => by
    by_cases hj : j < s + x.1.n
    · have hx := low_miss (x.1.v ^^^ m) x.1.n (by have := x.2.2.1; omega) (ha x (by simp)) (j - s) (by omega)
      rw [piece_bit h hm he h2 h1 x.2.2.1 (j - s) (by omega), show s + (j - s) = j by omega] at hx
      exact hx
    · exact Goes.miss h hm he h7 (fun y hy => ha y (by simp [hy])) j (by omega) j2
theorem Goes.split {G : List Int → Prop} {e nw : Nat} {x : Pcs nw} : ∀ {xs : List (Pcs nw)} {s t : Nat}, Goes G e s (xs ++ [x]) t → ∃ r, Goes G e s xs r ∧ r < e ∧ isAt G e r x.1
  | [], s, t, ⟨h1, h2, h3⟩ => ⟨s, rfl, h1, h2⟩
  | y :: ys, s, t, ⟨h1, h2, h3⟩ => let ⟨r, a, b, c⟩ := Goes.split h3; ⟨r, ⟨h1, h2, a⟩, b, c⟩
theorem Goes.found {bs : List Bool} {ws : List Int} (h : Means bs ws) {m : Nat} (hm : m = 0 ∨ m = 18446744073709551615) {e : Nat} (he : e ≤ bs.length) {nw : Nat} {xs : List (Pcs nw)} {x : Pcs nw} {s t : Nat} (hg : Goes (· = ws) e s (xs ++ [x]) t) (ha : ∀ y ∈ xs, ¬ hit m y.1) (hx : hit m x.1) (hs : s ≤ e) :
    nextV (other bs m) (e - s) s = some (x.1.k * 64 + x.1.a + lowX m x.1) := by
  obtain ⟨r, h1, h2, h3⟩ := hg.split
  have hr := h1.length
  obtain ⟨l1, l2⟩ := low_hit (x.1.v ^^^ m) x.1.n (by have := x.2.2.1; omega) hx
  have hl : lowX m x.1 < x.1.n := hx
  have hn := h3.2.2.1
  have e1 : x.1.k * 64 + x.1.a + lowX m x.1 = s + (r + lowX m x.1 - s) := by rw [h3.1, h3.2.1]; omega
  rw [e1]
  refine nextV_hit _ _ _ _ (by omega) (fun j hj => ?_) ?_
  · by_cases hj2 : s + j < r
    · exact Goes.miss h hm he h1 ha (s + j) (by omega) hj2
    · have hb := l2 (s + j - r) (show s + j - r < lowFrom (x.1.v ^^^ m) 0 64 by have : lowX m x.1 = lowFrom (x.1.v ^^^ m) 0 64 := rfl; omega)
      rw [piece_bit h hm he h3 h2 x.2.2.1 (s + j - r) (by omega), show r + (s + j - r) = s + j by omega] at hb
      exact hb
  · have hb := l1
    rw [show lowFrom (x.1.v ^^^ m) 0 64 = lowX m x.1 from rfl, piece_bit h hm he h3 h2 x.2.2.1 (lowX m x.1) hl] at hb
    rw [show s + (r + lowX m x.1 - s) = r + lowX m x.1 by omega]
    exact hb
theorem tableKeep {w w' : World} (h : Table w) (k : Kept [] w w') : Table w' := fun i hi => by
  have hc := h i hi
  rw [← hc]
  exact World.cell?_of_block (k.old _ (World.block_lt_of_cell? w _ hc) (by simp))

theorem has_put {W : World} {b : Nat} {t : TypeId} {cs : List Value} (h : Has W b t cs) (D : Nat) (o o' : Obj) (hD : W.heap[D]? = some o) (hc : o.isCells = false) : Has (W.putObj D o') b t cs := (CellsKept.put (S := []) W D o o' hD hc).has (by simp) h
theorem put_other {W : World} {p : Addr} {u : Value} {D : Nat} (hD : p.block ≠ D) : (W.setCell p u).heap[D]? = W.heap[D]? := heap_setCell_other W p D u (fun e => hD e.symm)
theorem up_reads {p q N : Nat} {ws : List Int} (w : World) (h : Vec w p q N ws) (i e : Nat) :
    Calls Tryz.prog 140 #[.pointer (some ⟨p, 0, none⟩), .int .i64 i, .int .i64 e] w fun r w' => r = .returned (.func (.func 159) #[] #[.pointer (some ⟨w.heap.size + 1, 0, none⟩), .pointer (some ⟨w.heap.size + 2, 0, none⟩), .pointer (some ⟨w.heap.size, 0, none⟩)]) ∧ Reads (· = ws) w' p q N (w.heap.size + 1) (w.heap.size + 2) w.heap.size i e ∧ Kept [] w w' := by
  refine (up_ok 0 i e (some ⟨p, 0, none⟩) w).mono ?_
  rintro r w0 ⟨rfl, rfl⟩
  have hk0 : Kept [] w (((w.alloc (.cells #[.pointer (some ⟨p, 0, none⟩)] 66)).alloc (.cells #[.int .i64 (i : Int)] 3)).alloc (.cells #[.int .i64 (e : Int)] 3)) := (((Kept.refl [] w).alloc _).alloc _).alloc _
  have h1 := ((Has.new w 66 [.pointer (some ⟨p, 0, none⟩)]).alloc (.cells #[.int .i64 (i : Int)] 3)).alloc (.cells #[.int .i64 (e : Int)] 3)
  have h2 := (Has.new (w.alloc (.cells #[.pointer (some ⟨p, 0, none⟩)] 66)) 3 [.int .i64 (i : Int)]).alloc (.cells #[.int .i64 (e : Int)] 3)
  have h3 := Has.new ((w.alloc (.cells #[.pointer (some ⟨p, 0, none⟩)] 66)).alloc (.cells #[.int .i64 (i : Int)] 3)) 3 [.int .i64 (e : Int)]
  rw [World.size_alloc] at h2
  rw [World.size_alloc, World.size_alloc] at h3
  exact ⟨rfl, ⟨h.head.keep0 hk0, ⟨ws, rfl, h.row.keep0 hk0⟩, h2, h3, h1⟩, hk0⟩

set_option maxRecDepth 100000 in
set_option maxHeartbeats 4000000 in
theorem seek_yes (bs : List Bool) (p q : Nat) (w : World) (hv : Bv w p q bs) (hT : Table w) (i : Int) (i1 : -9223372036854775808 ≤ i) (i2 : i ≤ 9223372036854775807) (m : Nat) (hm : m = 0 ∨ m = 18446744073709551615) (o : Option Nat) (ho : nextV (other bs m) (bs.length - i.toNat) i.toNat = o) :
    Calls Tryz.prog 155 #[.pointer (some ⟨p, 0, none⟩), .int .i64 i, .int .u64 m] w fun e w' => e = .returned (.tuple #[.int .i64 (atI o), .bool o.isSome]) ∧ Kept [] w w' := by
  obtain ⟨ws, hV, hM⟩ := hv
  have hf := hV.few
  have hpz : p < w.heap.size := hV.head.lt
  have hqz : q < w.heap.size := hV.row.lt
  have HV := Lib.hid hV
  have HM := Lib.hid hM
  have HT := Lib.hid hT
  have Hm := Lib.hid hm
  have Ho := Lib.hid ho
  clear hV hM hT hm ho
  refine (callsIn_wide (n := 5)).1 ?_
  refine callsIn_of_wp_marks Tryz.func155 rfl trivial ?_ rfl
  simp only [Tryz.ntmps155, List.size_toArray, List.length_cons, List.length_nil, Nat.reduceAdd, Nat.reduceSub, Array.replicate_succ, Array.replicate_zero, List.push_toArray, List.append_toArray, List.nil_append, List.cons_append]
  gi_wp2_with (fail)
  have hk3 : Kept [] w (((w.alloc (.cells #[.int .u64 m] 32)).alloc (.cells #[.int .i64 0] 3)).alloc (.cells #[.bool false] 4)) := (((Kept.refl [] w).alloc _).alloc _).alloc _
  have hc5 := ((Has.new w 32 [.int .u64 (m : Int)]).alloc (.cells #[.int .i64 0] 3)).alloc (.cells #[.bool false] 4)
  have hc6 := (Has.new (w.alloc (.cells #[.int .u64 (m : Int)] 32)) 3 [.int .i64 0]).alloc (.cells #[.bool false] 4)
  have hc7 := Has.new ((w.alloc (.cells #[.int .u64 (m : Int)] 32)).alloc (.cells #[.int .i64 0] 3)) 4 [.bool false]
  rw [World.size_alloc] at hc6
  rw [World.size_alloc, World.size_alloc] at hc7
  have hz3 : (((w.alloc (.cells #[.int .u64 m] 32)).alloc (.cells #[.int .i64 0] 3)).alloc (.cells #[.bool false] 4)).heap.size = w.heap.size + 1 + 1 + 1 := by simp
  obtain ⟨w3, hw3⟩ : ∃ w3, (((w.alloc (.cells #[.int .u64 m] 32)).alloc (.cells #[.int .i64 0] 3)).alloc (.cells #[.bool false] 4)) = w3 := ⟨_, rfl⟩
  have hw3' : (((w.alloc (.cells [.int .u64 (m : Int)].toArray 32)).alloc (.cells #[.int .i64 0] 3)).alloc (.cells #[.bool false] 4)) = w3 := hw3
  rw [hw3] at hk3 hz3 ⊢
  rw [hw3'] at hc5
  have hc6' : Has w3 (w.heap.size + 1) 3 [.int .i64 0] := by rw [← hw3]; exact hc6
  have hc7' : Has w3 (w.heap.size + 1 + 1) 4 [.bool false] := by rw [← hw3]; exact hc7
  clear hc6 hc7 hw3 hw3'
  have hV3 := HV.out.keep0 hk3
  have HL := Lib.hid (len_ok w3 hV3)
  have HU := Lib.hid (up_reads w3 hV3 i.toNat bs.length)
  have Hz3 := Lib.hid hz3
  have Hk3 := Lib.hid hk3
  have Hc5 := Lib.hid hc5
  have Hc6 := Lib.hid hc6'
  have Hc7 := Lib.hid hc7'
  clear hV3 hz3 hk3 hc5 hc6' hc7'
  refine ⟨trivial, (callsIn_wide.2 HL.out).mono ?_⟩
  rintro e w' ⟨rfl, rfl⟩
  have Emax := Lib.hid (show max i 0 = ((i.toNat : Nat) : Int) by omega)
  gi_wp2_with (fail)
  rw [Emax.out]
  refine ⟨trivial, (callsIn_wide.2 HU.out).mono ?_⟩
  rintro e0 w0 ⟨rfl, hR, hk0⟩
  rw [Hz3.out] at hR ⊢
  have HR := Lib.hid hR
  have Hk0 := Lib.hid hk0
  clear hR hk0
  gi_wp2_with (fail)
  have Hkw := Lib.hid (Hk3.out.trans Hk0.out)
  refine wpIn_rangeFunc_ownH rfl (by decide) (gf := 159) (lb := #[.pointer (some ⟨w.heap.size + 1 + 1 + 1 + 1, 0, none⟩), .pointer (some ⟨w.heap.size + 1 + 1 + 1 + 2, 0, none⟩), .pointer (some ⟨w.heap.size + 1 + 1 + 1, 0, none⟩)]) rfl trivial (enters_of Tryz.func159 (by kernel_rfl) rfl)
    (up_stops 4 (by decide) (· = ws) (good_of HV.out) [] p q bs.length (w.heap.size + 1 + 1 + 1 + 1) (w.heap.size + 1 + 1 + 1 + 2) (w.heap.size + 1 + 1 + 1) i.toNat bs.length hf (Nat.le_refl _) (by simp) w0 (by simp) HR.out)
    (fun h k => h.trans k) (fun W l o o' _ h hc _ => Keeps.put W l o o' h hc) (Below.refl _ _) (fun _ => rfl)
    (fun pre W => (∀ x ∈ pre, ¬ hit m x.1) ∧ Has W w.heap.size 32 [.int .u64 (m : Int)] ∧ Has W (w.heap.size + 1) 3 [.int .i64 0] ∧ Has W (w.heap.size + 1 + 1) 4 [.bool false] ∧ Kept [] w W)
    (fun c pre W => (c = .ret ∧ ∃ ys x, pre = ys ++ [x] ∧ (∀ y ∈ ys, ¬ hit m y.1) ∧ hit m x.1 ∧ Has W (w.heap.size + 1) 3 [.int .i64 ((x.1.k * 64 + x.1.a + lowX m x.1 : Nat) : Int)] ∧ Has W (w.heap.size + 1 + 1) 4 [.bool true]) ∧ Kept [] w W)
    (OwnFrom.and (ownFrom_pure _ _) (OwnFrom.and own_has (OwnFrom.and own_has (OwnFrom.and own_has (own_kept Hkw.out.more)))))
    (fun c => OwnFrom.and (fun pre X Y row hs hg hr => by
      obtain ⟨hc, ys, x, h1, h2, h3, h4, h5⟩ := hs
      exact ⟨hc, ys, x, h1, h2, h3, own_has (β := Unit) (f := fun _ => [.int .i64 ((x.1.k * 64 + x.1.a + lowX m x.1 : Nat) : Int)]) () X Y row h4 hg hr, own_has (β := Unit) (f := fun _ => [.bool true]) () X Y row h5 hg hr⟩) (own_kept Hkw.out.more))
    ⟨(by simp), Hc5.out.keep0 Hk0.out, Hc6.out.keep0 Hk0.out, Hc7.out.keep0 Hk0.out, Hkw.out⟩
    (fun x a' W => ∃ Bx, Has W Bx 131 [.int .i64 ((x.1.k : Nat) : Int), .int .i64 ((x.1.a : Nat) : Int), .int .i64 ((x.1.n : Nat) : Int)] ∧ a' = { tmps := #[.pointer (some ⟨p, 0, none⟩), .int .i64 i, .int .u64 m, undef, undef, .pointer (some ⟨w.heap.size, 0, none⟩), .pointer (some ⟨w.heap.size + 1, 0, none⟩), .pointer (some ⟨w.heap.size + 1 + 1, 0, none⟩), .pointer (some ⟨Bx, 0, none⟩), .int .u64 ((x.1.v : Nat) : Int), undef, .pointer (some ⟨p, 0, none⟩), .int .i64 i, .int .i64 (max i 0), .pointer (some ⟨p, 0, none⟩), .int .i64 (bs.length : Nat), .func (.func 159) #[] #[.pointer (some ⟨w.heap.size + 1 + 1 + 1 + 1, 0, none⟩), .pointer (some ⟨w.heap.size + 1 + 1 + 1 + 2, 0, none⟩), .pointer (some ⟨w.heap.size + 1 + 1 + 1, 0, none⟩)], pieceV x.1.k x.1.a x.1.n, .int .u64 ((x.1.v : Nat) : Int), undef, undef, undef, undef, undef, undef, undef, undef, undef, undef, undef, undef], defers := [] })
    (fun x a' _ X Y row hs hg hr => by
      obtain ⟨Bx, h2, h3⟩ := hs
      exact ⟨Bx, own_has (β := Unit) (f := fun _ => [.int .i64 ((x.1.k : Nat) : Int), .int .i64 ((x.1.a : Nat) : Int), .int .i64 ((x.1.n : Nat) : Int)]) () X Y row h2 hg hr, h3⟩)
    ?assign ?body ?done ?stop
  case assign =>
    rintro l pre x W K hi hK
    unfold encs pieceV
    have HK := Lib.hid hK
    have HI := Lib.hid hi
    clear hi hK
    gi_wp2
    have hkn : Kept [] W (W.alloc (.cells #[.int .i64 ((x.1.k : Nat) : Int), .int .i64 ((x.1.a : Nat) : Int), .int .i64 ((x.1.n : Nat) : Int)] 131)) := (Kept.refl [] W).alloc _
    exact HK.out _ _ (keepsFrom_of hkn (by simp)) (Keeps.of (CellsKept.of_kept hkn) (by simp)) ⟨HI.out.1, HI.out.2.1.keep0 hkn, HI.out.2.2.1.keep0 hkn, HI.out.2.2.2.1.keep0 hkn, HI.out.2.2.2.2.trans hkn⟩ ⟨W.heap.size, Has.new W _ _, rfl⟩
  case body =>
    rintro l pre x a' W _ _ ⟨hmi, h5, h6, h7, hk⟩ ⟨Bx, hX, rfl⟩ hlen
    have c5 := h5.cell 0
    have c6 := h6.cell 0
    have f6 := h6.free 0
    have c7 := h7.cell 0
    have f7 := h7.free 0
    have x0 := hX.cell 0
    have x1 := hX.cell 1
    have x2 := hX.cell 2
    simp at c5 c6 c7 x0 x1 x2
    obtain ⟨hx1, hx2, hx3, hx4⟩ := x.2
    have hml : m < 18446744073709551616 := by have := Hm.out; omega
    have Ex := Lib.hid (u64_xor_nat x.1.v m hx4 hml)
    have hxl : x.1.v ^^^ m < 18446744073709551616 := Nat.xor_lt_two_pow (n := 64) hx4 hml
    have hLow : Calls Tryz.prog 171 #[.int .u64 ((x.1.v ^^^ m : Nat) : Int)] W fun e w' => e = .returned (.int .i64 ((lowX m x.1 : Nat) : Int)) ∧ W = w' := by
      have h := low_any ((x.1.v ^^^ m : Nat) : Int) (by omega) (by omega) W (tableKeep HT.out hk)
      unfold lowV at h
      rw [Int.toNat_natCast] at h
      exact h
    have hLl : lowX m x.1 ≤ 64 := by have := low_le (x.1.v ^^^ m) 0 64; unfold lowX; omega
    have hhit : hit m x.1 ↔ lowX m x.1 < x.1.n := Iff.rfl
    obtain ⟨L, hL⟩ : ∃ L, L = lowX m x.1 := ⟨_, rfl⟩
    rw [← hL] at hLow hLl hhit
    have hkb : x.1.k ≤ 65536 := by omega
    have Hf := fun W => Lib.hid (first_ok x.1.k x.1.a x.1.n hkb (by omega) W)
    have HLow := Lib.hid hLow
    have HL := Lib.hid hL
    have Hhit := Lib.hid hhit
    have Hmi := Lib.hid hmi
    have H5 := Lib.hid h5
    have H6 := Lib.hid h6
    have H7 := Lib.hid h7
    have Hk := Lib.hid hk
    have HX := Lib.hid hX
    clear hLow hL hhit hmi h5 h6 h7 hk hX
    by_cases hlt : L < x.1.n
    · gi_wp2_with (fail)
      rw [Ex.out]
      refine ⟨trivial, (CallsIn.inRound l (callsIn_wide.2 HLow.out)).mono ?_⟩
      rintro e1 W1 ⟨rfl, rfl⟩
      gi_wp2_with (fail)
      refine ⟨trivial, (CallsIn.inRound l (callsIn_wide.2 (Hf W).out)).mono ?_⟩
      rintro e1 W1 ⟨rfl, hk1⟩
      have c6 := (H6.out.keep0 hk1).cell 0
      have f6 := (H6.out.keep0 hk1).free 0
      have c7 := (H7.out.keep0 hk1).cell 0
      have f7 := (H7.out.keep0 hk1).free 0
      simp at c6 c7
      have Hk1 := Lib.hid hk1
      clear hk1
      gi_wp2_with (fail)
      have hKS : Kept [w.heap.size + 1, w.heap.size + 1 + 1] W ((W1.setCell ⟨w.heap.size + 1, 0, none⟩ (.int .i64 ((x.1.k : Int) * 64 + (x.1.a : Int) + (L : Int)))).setCell ⟨w.heap.size + 1 + 1, 0, none⟩ (.bool true)) :=
        ((Hk1.out.none _).setCell _ _ (.inl (by simp))).setCell _ _ (.inl (by simp))
      have h6 := ((H6.out.keep0 Hk1.out).put 0 (.int .i64 ((x.1.k : Int) * 64 + (x.1.a : Int) + (L : Int)))).beside ⟨w.heap.size + 1 + 1, 0, none⟩ (by simp) (.bool true)
      have h7 := ((H7.out.keep0 Hk1.out).beside ⟨w.heap.size + 1, 0, none⟩ (by simp) (.int .i64 ((x.1.k : Int) * 64 + (x.1.a : Int) + (L : Int)))).put 0 (.bool true)
      refine ⟨keepsFrom_of hKS (fun b hb => ?_), ⟨rfl, pre, x, rfl, Hmi.out, Hhit.out.2 hlt, ?_, h7⟩, ((Hk.out.trans Hk1.out).setCell _ _ (.inr (by first | (simp; done) | (simp; omega)))).setCell _ _ (.inr (by first | (simp; done) | (simp; omega)))⟩
      · rcases List.mem_cons.1 hb with rfl | hb
        · exact ⟨_, _, H6.out⟩
        · obtain rfl := List.mem_singleton.1 hb
          exact ⟨_, _, H7.out⟩
      · rw [← HL.out, Int.natCast_add, Int.natCast_add, Int.natCast_mul]
        exact h6
    · gi_wp2_with (fail)
      rw [Ex.out]
      refine ⟨trivial, (CallsIn.inRound l (callsIn_wide.2 HLow.out)).mono ?_⟩
      rintro e1 W1 ⟨rfl, rfl⟩
      gi_wp2_with (fail)
      refine ⟨KeepsFrom.refl _ _, Keeps.of (CellsKept.of_kept (Kept.refl _ W)) (by simp), fun y hy => ?_, H5.out, H6.out, H7.out, Hk.out⟩
      rcases List.mem_append.1 hy with h | h
      · exact Hmi.out y h
      · rw [List.mem_singleton.1 h, Hhit.out]
        exact hlt
  case done =>
    rintro D xs W hD ⟨t, hg, ht⟩ ⟨hmi, h5, h6, h7, hk⟩ hK
    have c6 := h6.cell 0
    have f6 := h6.free 0
    have c7 := h7.cell 0
    have f7 := h7.free 0
    simp at c6 c7
    have ht2 : bs.length - i.toNat = 0 ∨ t = bs.length := by
      by_cases hi : i.toNat ≤ bs.length
      · exact .inr (by have := hg.le hi; omega)
      · exact .inl (by omega)
    have hn : nextV (other bs m) (bs.length - i.toNat) i.toNat = none := nextV_none _ _ _ fun j hj => Goes.miss HM.out Hm.out (Nat.le_refl _) hg hmi (i.toNat + j) (by omega) (by omega)
    rw [Ho.out] at hn
    have Hn := Lib.hid hn
    have HKd := Lib.hid hK
    have Hk := Lib.hid hk
    have H6 := Lib.hid h6
    have H7 := Lib.hid h7
    clear hn hK hk h6 h7 hmi hg ht2
    gi_wp2
    have hD1 : w.heap.size + 1 ≠ D := by have := Hc7.out.lt; have := Hk0.out.more; omega
    have hD2 : w.heap.size + 1 + 1 ≠ D := by have := Hc7.out.lt; have := Hk0.out.more; omega
    have hK2 : ((W.setCell ⟨w.heap.size + 1, 0, none⟩ (.int .i64 0)).setCell ⟨w.heap.size + 1 + 1, 0, none⟩ (.bool false)).heap[D]? = some (.deferred (some [])) := by
      rw [put_other hD2, put_other hD1]
      exact HKd.out
    have h6 := has_put ((H6.out.put 0 (.int .i64 0)).beside ⟨w.heap.size + 1 + 1, 0, none⟩ (by simp) (.bool false)) D _ (.deferred none) hK2 rfl
    have h7 := has_put ((H7.out.beside ⟨w.heap.size + 1, 0, none⟩ (by simp) (.int .i64 0)).put 0 (.bool false)) D _ (.deferred none) hK2 rfl
    have d6 := h6.cell 0
    have d7 := h7.cell 0
    simp at d6 d7
    refine ⟨by simp, .inl ⟨_, _, rfl, run_takeDeferred hK2, ?_⟩⟩
    refine ⟨.tuple #[.int .i64 0, .bool false], ?_, ?_, kept_put (((Hk.out).setCell _ _ (.inr (by first | (simp; done) | (simp; omega)))).setCell _ _ (.inr (by first | (simp; done) | (simp; omega)))) D _ (Nat.le_trans Hkw.out.more hD)⟩
    · simp [results, Tryz.results155, go_sem, d6, d7]
    · rw [Hn.out]
      rfl
  case stop =>
    rintro D c pre W hD ⟨t, hg⟩ ⟨⟨rfl, ys, x, rfl, hmi, hx, h6, h7⟩, hk⟩ hK
    have c6 := h6.cell 0
    have c7 := h7.cell 0
    simp at c6 c7
    have hfnd : ∃ r, r = x.1.k * 64 + x.1.a + lowX m x.1 := ⟨_, rfl⟩
    by_cases hi : i.toNat ≤ bs.length
    · have hf2 := Goes.found HM.out Hm.out (Nat.le_refl _) hg hmi hx hi
      rw [Ho.out] at hf2
      have Hf2 := Lib.hid hf2
      have HKd := Lib.hid hK
      have Hk := Lib.hid hk
      have H6 := Lib.hid h6
      have H7 := Lib.hid h7
      clear hf2 hK hk h6 h7 hmi hg hx hfnd
      gi_wp2
      have d6 := (has_put H6.out D _ (.deferred none) HKd.out rfl).cell 0
      have d7 := (has_put H7.out D _ (.deferred none) HKd.out rfl).cell 0
      simp only [List.getElem?_cons_zero] at d6 d7
      refine ⟨by simp, .inl ⟨_, _, rfl, run_takeDeferred HKd.out, ?_⟩⟩
      refine ⟨.tuple #[.int .i64 ((x.1.k * 64 + x.1.a + lowX m x.1 : Nat) : Int), .bool true], ?_, ?_, kept_put Hk.out D _ (Nat.le_trans Hkw.out.more hD)⟩
      · simp [results, Tryz.results155, go_sem, d6, d7]
      · rw [Hf2.out]
        rfl
    · obtain ⟨r, h1, h2, _⟩ := hg.split
      have := h1.length
      omega
end Go.Proofs.YtagmmbkgjomdlaaGreatDoor.Bt

/-
  The loops over the pieces of no vector; seek, Next and NextClear, whole.
-/
namespace Go.Proofs.YtagmmbkgjomdlaaGreatDoor.Bt
open Go.RowKit Go.Proofs.YtagmmbkgjomdlaaGreatDoor.Ar Go.Proofs.YtagmmbkgjomdlaaGreatDoor.Wd Go.Shelf Go.Sort
set_option linter.unusedVariables false
attribute [local go_sem] Oper.semAt_some

/-- The first place from i on whose bit is st. -/
def nextO (bs : List Bool) (i : Int) (st : Bool) : Option Nat := nextV (fun j => bit bs j == st) (bs.length - i.toNat) i.toNat
theorem next_ok (bs : List Bool) (p q : Nat) (w : World) (hv : Bv w p q bs) (hT : Table w) (i : Int) (i1 : -9223372036854775808 ≤ i) (i2 : i ≤ 9223372036854775807) :
    Calls Tryz.prog 131 #[.pointer (some ⟨p, 0, none⟩), .int .i64 i] w fun e w' => e = .returned (.tuple #[.int .i64 (atI (nextO bs i true)), .bool (nextO bs i true).isSome]) ∧ Kept [] w w' := by
  have h := Lib.hid (seek_yes bs p q w hv hT i i1 i2 0 (.inl rfl) (nextO bs i true) rfl)
  clear hv hT
  generalize nextO bs i true = o at *
  go_enter Tryz.func131, Tryz.ntmps131
  go_wp2_with fail
  refine (h.out).mono ?_
  rintro e w' ⟨rfl, hk⟩
  go_wp2_with fail
  go_ret2
  exact ⟨rfl, hk⟩
end Go.Proofs.YtagmmbkgjomdlaaGreatDoor.Bt
