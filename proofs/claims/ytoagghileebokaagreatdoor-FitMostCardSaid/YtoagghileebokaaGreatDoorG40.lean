/-
  Several texts in one: SpHeavy, WkHeavy, FtHeavy, FdPlayed.
-/
import Derived.Test.YtoagghileebokaaGreatDoorG03
import Derived.Test.YtoagghileebokaaGreatDoorG02
import Derived.Test.YtoagghileebokaaGreatDoorG32
import Derived.Test.YtoagghileebokaaGreatDoorG25
import Derived.Test.YtoagghileebokaaGreatDoorG24
import Derived.LoopN
import Derived.Test.YtoagghileebokaaGreatDoorG33
/-
  The law's own guard: Heavy.
-/
namespace Go.Proofs.YtoagghileebokaaGreatDoor.Sp
open Go.RowKit Go.Proofs.YtoagghileebokaaGreatDoor.Ar
set_option linter.unusedVariables false
theorem step_at {w : World} {A : Option Addr} {L : List Stp} (h : Steps w A L) (j : Nat) (hj : j < L.length) : ∃ g f s, A = some ⟨g, f, none⟩ ∧ g < w.heap.size ∧ s ∈ L ∧ w.cell? ⟨g, f + j * 6, none⟩ = some (.int .i64 s.d) ∧ w.cell? ⟨g, f + j * 6 + 1, none⟩ = some (.int .i64 s.g) ∧ w.cell? ⟨g, f + j * 6 + 2, none⟩ = some (.int .i64 s.i) ∧ w.cell? ⟨g, f + j * 6 + 3, none⟩ = some (.int .i64 s.n) ∧ w.cell? ⟨g, f + j * 6 + 4, none⟩ = some (.int .u64 s.u) ∧ w.cell? ⟨g, f + j * 6 + 5, none⟩ = some (.slice s.A s.len s.cap) := by
  obtain ⟨g, f, e, hg, hc⟩ := h (by rintro rfl; cases hj)
  have h1 := hc j L[j] (List.getElem?_eq_getElem hj)
  exact ⟨g, f, L[j], e, hg, List.getElem_mem hj, h1 0 _ rfl, h1 1 _ rfl, h1 2 _ rfl, h1 3 _ rfl, h1 4 _ rfl, h1 5 _ rfl⟩
/-- What is let through. -/
def Light (n : Int) (k m : Nat) : Prop := (n ≤ 600 ∨ 65536 < n) ∧ k ≤ 70 ∧ m ≤ 60
end Go.Proofs.YtoagghileebokaaGreatDoor.Sp

/-
  The law's own guard, Heavy: what it lets through, the rows in the steps among it.
-/
namespace Go.Proofs.YtoagghileebokaaGreatDoor.Wk
open Go.RowKit Go.Proofs.YtoagghileebokaaGreatDoor.Ar Go.Proofs.YtoagghileebokaaGreatDoor.Sp
set_option linter.unusedVariables false
/-- The lengths of the steps' rows, together. -/
def sumL : List Stp → Int
  | [] => 0
  | s :: L => (s.len : Int) + sumL L
theorem sumL_append : ∀ a b : List Stp, sumL (a ++ b) = sumL a + sumL b
  | [], b => by show sumL b = 0 + sumL b; omega
  | s :: a, b => by show (s.len : Int) + sumL (a ++ b) = (s.len : Int) + sumL a + sumL b; rw [sumL_append a b]; omega
theorem sumL_most : ∀ L : List Stp, (∀ s ∈ L, s.len ≤ 17592186044416) → 0 ≤ sumL L ∧ sumL L ≤ 17592186044416 * (L.length : Int)
  | [], _ => by show (0 : Int) ≤ 0 ∧ (0 : Int) ≤ 17592186044416 * ((0 : Nat) : Int); omega
  | s :: L, h => by
    have h1 := sumL_most L fun t ht => h t (by simp [ht])
    have h2 := h s (by simp)
    show 0 ≤ (s.len : Int) + sumL L ∧ (s.len : Int) + sumL L ≤ 17592186044416 * ((L.length + 1 : Nat) : Int)
    omega
theorem sumL_mem : ∀ {L : List Stp} {s : Stp}, s ∈ L → (∀ t ∈ L, t.len ≤ 17592186044416) → (s.len : Int) ≤ sumL L
  | t :: L, s, h, hm => by
    have h1 := sumL_most L fun t ht => hm t (by simp [ht])
    show (s.len : Int) ≤ (t.len : Int) + sumL L
    rcases List.mem_cons.1 h with rfl | h
    · omega
    · have := sumL_mem h fun t ht => hm t (by simp [ht])
      omega
def HeavyPost2 (n : Int) (k : Nat) (L : List Stp) (w : World) (e : Ending) (w' : World) : Prop := (∃ b, e = .returned (.bool b) ∧ (b = false → Light n k L.length ∧ ∀ s ∈ L, s.len ≤ 300)) ∧ w = w'
set_option maxRecDepth 100000 in
set_option maxHeartbeats 4000000 in
theorem heavy2_ok (n : Int) (A1 : Option Addr) (k cap1 : Nat) (A2 : Option Addr) (L : List Stp) (cap2 : Nat) {w : World} (hS : Sp.Steps w A2 L) (hok : ∀ s ∈ L, s.len ≤ 17592186044416) (hk : k ≤ maxLen) (hL : L.length ≤ maxLen) :
    Calls Tryz.prog 22 #[.int .i64 n, .slice A1 k cap1, .slice A2 L.length cap2] w (HeavyPost2 n k L w) := by
  have HS := Lib.hid hS
  have HOk := Lib.hid hok
  clear hS hok
  unfold maxLen at hk hL
  go_enter Tryz.func22, Tryz.ntmps22
  go_wp2_with fail
  go_loop [7, 8] (fun v t => ∃ (j : Nat) (m : Int), v = .int .i64 m ∧ t = .int .i64 (j : Int) ∧ j ≤ 100 ∧ j ≤ L.length ∧ 0 ≤ m ∧ m ≤ 17592186044416 * (j : Int) ∧ Hid (m = sumL (L.take j))) (fun _ t => 100 - (intOf t).toNat)
  case atStart => exact ⟨0, 0, rfl, rfl, by omega, by omega, by omega, by omega, Lib.hid rfl⟩
  case round =>
    obtain ⟨j, m, rfl, rfl, hj, hjL, m0, m1, hm⟩ := hrel
    by_cases hlt : j < L.length
    · by_cases h100 : j < 100
      · obtain ⟨g, f, s, rfl, hg, hs, c0, c1, c2, c3, c4, c5⟩ := step_at HS.out j hlt
        have hlen := HOk.out s hs
        have hHs : Hid (m + (s.len : Int) = sumL (L.take (j + 1))) := Lib.hid (by
          obtain ⟨g', f', e', hg', hc⟩ := HS.out (by rintro rfl; cases hlt)
          have hx := hc j L[j] (List.getElem?_eq_getElem hlt) 5 _ rfl
          injection e' with e'
          injection e' with e1 e2 e3
          subst e1 e2
          rw [show f + (j * 6 + 5) = f + j * 6 + 5 by omega, c5] at hx
          injection hx with hx
          injection hx with hx1 hx2 hx3
          rw [List.take_succ_eq_append_getElem hlt, sumL_append, ← hm.out, hx2]
          show m + (L[j].len : Int) = m + ((L[j].len : Int) + 0)
          omega)
        go_wp2_with fail
        go_round
        case rel => exact ⟨j + 1, m + (s.len : Int), by go_num, by go_num, by omega, by omega, by omega, by omega, hHs⟩
        case measure => simp [intOf] <;> omega
      · have h1 : (60 : Nat) < L.length := by omega
        have hb : decide ((j : Int) < 100) = false := decide_eq_false (by omega)
        by_cases q1 : 600 < n
        · by_cases q2 : n ≤ 65536
          · go_wp2_with fail
            go_ret
            exact ⟨⟨_, rfl, fun h => by cases h⟩, rfl⟩
          · by_cases q3 : 70 < k
            · go_wp2_with fail
              go_ret
              exact ⟨⟨_, rfl, fun h => by cases h⟩, rfl⟩
            · by_cases q4 : 60 < L.length
              · go_wp2_with fail
                go_ret
                exact ⟨⟨_, rfl, fun h => by cases h⟩, rfl⟩
              · exact absurd h1 q4
        · by_cases q3 : 70 < k
          · go_wp2_with fail
            go_ret
            exact ⟨⟨_, rfl, fun h => by cases h⟩, rfl⟩
          · by_cases q4 : 60 < L.length
            · go_wp2_with fail
              go_ret
              exact ⟨⟨_, rfl, fun h => by cases h⟩, rfl⟩
            · exact absurd h1 q4
    · have hb : decide (j < L.length) = false := decide_eq_false (by omega)
      have hEach : Hid (¬ 300 < m → ∀ s ∈ L, s.len ≤ 300) := Lib.hid fun h s hs => by
        have h1 := hm.out
        rw [List.take_of_length_le (by omega)] at h1
        have := sumL_mem hs HOk.out
        omega
      clear hm HS HOk
      by_cases q1 : 600 < n
      · by_cases q2 : n ≤ 65536
        · go_wp2_with fail
          go_ret
          exact ⟨⟨_, rfl, fun h => by cases h⟩, rfl⟩
        · by_cases q3 : 70 < k
          · go_wp2_with fail
            go_ret
            exact ⟨⟨_, rfl, fun h => by cases h⟩, rfl⟩
          · by_cases q4 : 60 < L.length
            · go_wp2_with fail
              go_ret
              exact ⟨⟨_, rfl, fun h => by cases h⟩, rfl⟩
            · by_cases q5 : 300 < m
              · go_wp2_with fail
                go_ret
                exact ⟨⟨_, rfl, fun h => by cases h⟩, rfl⟩
              · go_wp2_with fail
                go_ret
                exact ⟨⟨_, rfl, fun _ => ⟨⟨.inr (by omega), by omega, by omega⟩, hEach.out q5⟩⟩, rfl⟩
      · by_cases q3 : 70 < k
        · go_wp2_with fail
          go_ret
          exact ⟨⟨_, rfl, fun h => by cases h⟩, rfl⟩
        · by_cases q4 : 60 < L.length
          · go_wp2_with fail
            go_ret
            exact ⟨⟨_, rfl, fun h => by cases h⟩, rfl⟩
          · by_cases q5 : 300 < m
            · go_wp2_with fail
              go_ret
              exact ⟨⟨_, rfl, fun h => by cases h⟩, rfl⟩
            · go_wp2_with fail
              go_ret
              exact ⟨⟨_, rfl, fun _ => ⟨⟨.inl (by omega), by omega, by omega⟩, hEach.out q5⟩⟩, rfl⟩
end Go.Proofs.YtoagghileebokaaGreatDoor.Wk

/-
  Stage 13, fit: a law's case as a value; its Heavy; how many granules of objects a space has.
-/
namespace Go.Proofs.YtoagghileebokaaGreatDoor.Ft
open Go.RowKit Go.Proofs.YtoagghileebokaaGreatDoor.Ar
open Go.Proofs.YtoagghileebokaaGreatDoor.Sp (Stp Light Cel objs tot Has1 Ids one_cells celCells celCells_get)
open Go.Proofs.YtoagghileebokaaGreatDoor.Tb (Ty)
open Go.Proofs.YtoagghileebokaaGreatDoor.Wk (heavy2_ok HeavyPost2)
set_option linter.unusedVariables false

/-- A case: words, types, steps, black granules, whether there is no list. -/
structure Cs where
  a : Int
  A : Option Addr
  l : List Ty
  c : Nat
  A2 : Option Addr
  L : List Stp
  c2 : Nat
  A3 : Option Addr
  gs : List Int
  c3 : Nat
  bare : Bool
def Cs.cells (c : Cs) : List Value := [.int .i64 c.a, .slice c.A c.l.length c.c, .slice c.A2 c.L.length c.c2, .slice c.A3 c.gs.length c.c3, .bool c.bare]
def Cs.val (c : Cs) : Value := .agg #[.int .i64 c.a, .slice c.A c.l.length c.c, .slice c.A2 c.L.length c.c2, .slice c.A3 c.gs.length c.c3, .bool c.bare]
/-- Light enough to be looked at. -/
structure Cs.Lit (c : Cs) : Prop where
  light : Light c.a c.l.length c.L.length
  each : ∀ s ∈ c.L, s.len ≤ 300
  black : c.gs.length ≤ 200
set_option maxRecDepth 100000 in
set_option maxHeartbeats 4000000 in
theorem heavy13_ok {w : World} (c : Cs) (hS : Sp.Steps w c.A2 c.L) (hok : ∀ s ∈ c.L, s.len ≤ 17592186044416) (hk : c.l.length ≤ maxLen) (hL : c.L.length ≤ maxLen) :
    Calls Tryz.prog 6 #[c.val] w fun e y => ∃ b, e = .returned (.bool b) ∧ (b = false → c.Lit) ∧ Kept [] w y := by
  obtain ⟨a, A, l, cc, A2, L, c2, A3, gs, c3, bare⟩ := c
  have k0 : Kept [] w (w.alloc (.cells #[.int .i64 a, .slice A l.length cc, .slice A2 L.length c2, .slice A3 gs.length c3, .bool bare] 26)) := (Kept.refl [] w).alloc _
  have HS0 : Hid (Sp.Steps (w.alloc (.cells #[.int .i64 a, .slice A l.length cc, .slice A2 L.length c2, .slice A3 gs.length c3, .bool bare] 26)) A2 L) := Lib.hid (hS.keep0 k0)
  have HH := Lib.hid (heavy2_ok a A l.length cc A2 L c2 HS0.out hok hk hL)
  have K0 := Lib.hid k0
  have c3' := (Has.new w 26 [.int .i64 a, .slice A l.length cc, .slice A2 L.length c2, .slice A3 gs.length c3, .bool bare]).cell 3
  simp only [List.getElem?_cons_zero, List.getElem?_cons_succ] at c3'
  clear hS hok hk hL k0
  unfold Cs.val
  simp only
  go_enter Tryz.func6, Tryz.ntmps6
  go_wp2_with fail
  refine HH.out.mono ?_
  rintro e y ⟨⟨b, rfl, hb⟩, rfl⟩
  have HB := Lib.hid hb
  clear hb HH
  cases b with
  | true =>
    go_wp2_with fail
    go_ret
    exact ⟨true, rfl, (fun h => by cases h), K0.out⟩
  | false =>
    go_wp2_with fail
    go_ret
    exact ⟨decide ((200 : Int) < (gs.length : Int)), rfl, (fun h => ⟨(HB.out (by trivial)).1, (HB.out (by trivial)).2, by have := of_decide_eq_false h; show gs.length ≤ 200; omega⟩), K0.out⟩
/-- How many granules of objects. -/
theorem tot_snoc : ∀ (a : List Cel) (c : Cel), tot (a ++ [c]) = tot a + c.h.sz
  | [], c => by show c.h.sz + 0 = 0 + c.h.sz; omega
  | d :: a, c => by
    show d.h.sz + tot (a ++ [c]) = d.h.sz + tot a + c.h.sz
    rw [tot_snoc a c]
    omega
theorem objs_snoc (a : List Cel) (c : Cel) : objs (a ++ [c]) = if c.h.tg = 1 then objs a ++ [c] else objs a := by
  rw [Sp.objs_append]
  unfold Sp.objs
  by_cases h : c.h.tg = 1
  · rw [if_pos h, List.filter_cons_of_pos (by simpa using h)]
    rfl
  · rw [if_neg h, List.filter_cons_of_neg (by simpa using h)]
    simp
end Go.Proofs.YtoagghileebokaaGreatDoor.Ft

/-
  The contract of the laws' Played, out of made_ok and does_ok: none; or a space and the document's, alike, of as many words.
-/
namespace Go.Proofs.YtoagghileebokaaGreatDoor.Fd
open Go.RowKit Go.Proofs.YtoagghileebokaaGreatDoor.Ar Go.Proofs.YtoagghileebokaaGreatDoor.Wk
open Go.Proofs.YtoagghileebokaaGreatDoor.Sp hiding Own own_from own_put back_own Seen own_cells seen_one
open Go.Proofs.YtoagghileebokaaGreatDoor.Hd (Hd Fields)
open Go.Proofs.YtoagghileebokaaGreatDoor.Tb (Ty Tab newF)
open Go.Proofs.YtoagghileebokaaGreatDoor.Wd (Table)
set_option linter.unusedVariables false

theorem twin_start {w x : World} {s : Ids} {r : Nat} {B : Option Addr} {d : Nat} {l : List Ty} (h : Sp.Twin w x s r B d l) : Kept [] w x := let ⟨_, _, _, h⟩ := h; h.mine.kept
/-- What Played answers: none; or a space and the document's, alike, of a0 words. -/
def PlayedPost (w : World) (a0 : Int) (B : Option Addr) (d : Nat) (l : List Ty) (e : Ending) (y : World) : Prop :=
  (e = .returned (.tuple #[.pointer none, .pointer none, .bool true]) ∧ Kept [] w y) ∨
  ∃ (s : Ids) (r : Nat) (ws : List Int) (bs : List Bool) (cs : List Cel), e = .returned (.tuple #[.pointer (some ⟨s.sp, 0, none⟩), .pointer (some ⟨r, 0, none⟩), .bool true]) ∧ Duo w y s r B d l ws bs cs ws ∧ (2 * s.n : Int) = a0
set_option maxRecDepth 100000 in
set_option maxHeartbeats 8000000 in
theorem played_ok {w : World} (a0 : Int) (b0 : -9223372036854775808 ≤ a0 ∧ a0 ≤ 9223372036854775807) (A1 : Option Addr) (l : List Ty) (cap1 : Nat) (A2 : Option Addr) (L : List Stp) (cap2 : Nat) (hF : Fields w) (hTb : Table w)
    (hl : l.length ≤ 100000) (hL : L.length ≤ 100000) (hS1 : Tb.Seen w A1 l) (hok1 : ∀ t ∈ l, t.ok) (hS2 : Sp.Steps w A2 L) (hok2 : ∀ s ∈ L, s.ok) (hrd : ∀ s ∈ L, Wk.Read w s) (hEa : ∀ st ∈ L, st.len ≤ 300) :
    Calls Tryz.prog 24 #[.int .i64 a0, .slice A1 l.length cap1, .slice A2 L.length cap2] w (PlayedPost w a0 A1 cap1 l) := by
  have HMd := Lib.hid (made_ok (d := cap1) a0 b0.1 b0.2 hF hTb hS1 hok1 hl)
  have HS1 := Lib.hid hS1
  have HS2 := Lib.hid hS2
  have HOk2 := Lib.hid hok2
  have HRd := Lib.hid hrd
  have HEa := Lib.hid hEa
  unfold PlayedPost
  clear hF hTb hS1 hok1 hS2 hok2 hrd hEa
  go_enter Tryz.func24, Tryz.ntmps24
  go_wp2_with fail
  refine HMd.out.mono ?_
  rintro e x1 (⟨_, rfl, k1⟩ | ⟨m, s, r, hm, hmb, rfl, hsn, hD⟩)
  · have K1 := Lib.hid k1
    clear k1 HMd
    go_wp2_with fail
    go_ret3
    exact .inl ⟨rfl, K1.out⟩
  · have H0 : Hid (Sp.Twin w x1 s r A1 cap1 l) := Lib.hid ⟨_, _, _, hD⟩
    have HSn := Lib.hid (hsn.trans hm.symm)
    clear hD hm hmb hsn HMd
    go_wp2_with fail
    go_loopw [12] (fun t wr => ∃ j : Nat, t = .int .i64 (j : Int) ∧ j ≤ L.length ∧ Hid (Sp.Twin w wr s r A1 cap1 l)) (fun t _ => L.length - (intOf t).toNat)
    case atStart => exact ⟨0, rfl, Nat.zero_le _, H0⟩
    case round =>
      clear H0
      obtain ⟨j, rfl, hj, hr⟩ := hrel
      by_cases hlt : j < L.length
      · obtain ⟨g0, f0, st, rfl, hg0, hst, c0, c1, c2, c3, c4, c5⟩ := step_at (HS2.out.keep0 (twin_start hr.out)) j hlt
        have hok := HOk2.out st hst
        have hrdd := HRd.out st hst
        obtain ⟨gs, e1, e2, e3⟩ := hrdd.gs
        have hgm : gs.length ≤ 300 := by rw [e1]; exact HEa.out st hst
        have HDo := Lib.hid (does_ok hr.out HS1.out st hok hrdd.u gs e1 e2 e3 hrdd.nil hgm fun y hy => joins_ok hy HS1.out st.d st.g st.i st.n st.u st.A st.len st.cap hok.2.1.1 hok.2.1.2 hok.2.2.1.1 hok.2.2.1.2 hok.2.2.2.1.1 hok.2.2.2.1.2)
        clear hr hok hrdd e1 e2 e3 hgm hst gs
        go_wp2_with fail
        refine HDo.out.mono ?_
        rintro e y ⟨rfl, hz⟩
        have HZ := Lib.hid hz
        clear hz HDo c0 c1 c2 c3 c4 c5
        go_wp2_with fail
        go_roundw
        case rel => exact ⟨j + 1, by go_num, by omega, HZ⟩
        case measure => simp [intOf] <;> omega
      · obtain ⟨ws, bs, cs, hD⟩ := hr.out
        clear hr
        have HD := Lib.hid hD
        clear hD
        go_wp2_with fail
        go_ret3
        exact .inr ⟨s, r, ws, bs, cs, rfl, HD.out, HSn.out⟩
end Go.Proofs.YtoagghileebokaaGreatDoor.Fd
