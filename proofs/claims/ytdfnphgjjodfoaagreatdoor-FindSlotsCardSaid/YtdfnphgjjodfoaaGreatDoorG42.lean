/-
  Several texts in one: FdKpi, FdCells.
-/
import Derived.Test.YtdfnphgjjodfoaaGreatDoorG41
import Derived.Test.YtdfnphgjjodfoaaGreatDoorG34
import Derived.Test.YtdfnphgjjodfoaaGreatDoorG25
/-
  Stage 11, find: what a call of a closure keeps: all blocks but its boxes, and rows of numbers; the cells that addresses have, one by one.
-/
namespace Go.Proofs.YtdfnphgjjodfoaaGreatDoor.Fd
open Go.RowKit Go.Proofs.YtdfnphgjjodfoaaGreatDoor.Ar Go.Proofs.YtdfnphgjjodfoaaGreatDoor.Sp
open Go.Proofs.YtdfnphgjjodfoaaGreatDoor.Hd (Hd fitL wordI)
open Go.Proofs.YtdfnphgjjodfoaaGreatDoor.Tb (Ty)
open Go.Proofs.YtdfnphgjjodfoaaGreatDoor.Sh (wordR wordB)
set_option linter.unusedVariables false

theorem tiled_len {ws : List Int} {l : List Ty} : ∀ {cs : List Cel} {f e : Int}, Tiled ws l f cs e → (cs.length : Int) ≤ e - f
  | [], f, e, h => by
    have h : f = e := h
    simp [h]
  | c :: cs, f, e, h => by
    have h1 := tiled_len h.2.2.2.2
    have h2 := can_sz h.2.1
    rw [List.length_cons]
    omega
/-- All blocks but the boxes S, and but rows of numbers, are kept. -/
structure Kpi (S : List Nat) (A B : World) : Prop where
  size : A.heap.size ≤ B.heap.size
  has : ∀ i t cs, i ∉ S → t ≠ 3 → Has A i t cs → Has B i t cs
namespace Kpi
variable {S T : List Nat} {A B C : World}
theorem refl (S : List Nat) (A : World) : Kpi S A A := ⟨Nat.le_refl _, fun _ _ _ _ _ h => h⟩
theorem trans (h : Kpi S A B) (k : Kpi S B C) : Kpi S A C := ⟨Nat.le_trans h.size k.size, fun i t cs hi ht hh => k.has i t cs hi ht (h.has i t cs hi ht hh)⟩
theorem of (k : Kept T A B) (h : ∀ b ∈ T, b ∈ S ∨ ∃ cs, Has A b 3 cs) : Kpi S A B :=
  ⟨k.more, fun i t cs hi ht hh => hh.kept k fun hm => by
    rcases h i hm with h1 | ⟨cs', h1⟩
    · exact hi h1
    · exact Has.block_type hh h1 ht rfl⟩
theorem keep0 (k : Kept [] A B) : Kpi S A B := of k fun _ hb => by cases hb
theorem boxes (k : Kept S A B) : Kpi S A B := of k fun _ hb => .inl hb
end Kpi
theorem own_kpi {S : List Nat} {A B : World} {v : Value} {cs : List Cel} (h : Sp.Own A v cs) (k : Kpi S A B) (hS : ∀ b ∈ S, v.ownBlock ≠ some b) : Sp.Own B v cs := by
  refine ⟨h.1, ?_⟩
  rcases h.2 with hn | ⟨g, cap, cur, rfl, hb, hg, rest⟩
  · exact .inl hn
  · refine .inr ⟨g, cap, cur, rfl, hb, ?_, rest⟩
    have hh : Has A g 37 cur.toList := by unfold Has; simpa using hg
    have := k.has g _ _ (fun hm => hS g hm rfl) (by decide) hh
    unfold Has at this
    simpa using this
/-- A row of addresses, at the head of its block. -/
def Rw (w : World) (A : Option Addr) (us : List Int) : Prop := us ≠ [] → ∃ g cur, A = some ⟨g, 0, none⟩ ∧ Has w g 24 cur ∧ ∀ j, j < us.length → cur[j]? = some (.int .u64 (us.getD j 0))
theorem Rw.keep0 {w x : World} {A : Option Addr} {us : List Int} (h : Rw w A us) (k : Kept [] w x) : Rw x A us := fun hn => by
  obtain ⟨g, cur, e, hh, hc⟩ := h hn
  exact ⟨g, cur, e, hh.keep0 k, hc⟩
theorem Rw.at {S : List Nat} {w x : World} {A : Option Addr} {us : List Int} (h : Rw w A us) (hS : ∀ b ∈ S, ∃ t cs, Has w b t cs ∧ t ≠ 24) (k : Kpi S w x) (j : Nat) (hj : j < us.length) : ∃ g, A = some ⟨g, 0, none⟩ ∧ x.cell? ⟨g, j, none⟩ = some (.int .u64 (us.getD j 0)) := by
  obtain ⟨g, cur, e, hh, hc⟩ := h (by rintro rfl; simp at hj)
  refine ⟨g, e, ?_⟩
  rw [(k.has g _ _ (fun hm => ?_) (by decide) hh).cell j]
  · exact hc j hj
  · obtain ⟨t, cs, h1, h2⟩ := hS g hm
    exact Has.block_type h1 hh h2 rfl
theorem rw_one {w : World} {g : Nat} {u : Int} (h : Has w g 24 [.int .u64 u]) : Rw w (some ⟨g, 0, none⟩) [u] := fun _ => ⟨g, _, rfl, h, fun j hj => by
  obtain rfl : j = 0 := by simpa using hj
  rfl⟩
theorem rw_own {w : World} {A : Option Addr} {n c : Nat} {us : List Int} (h : Ar.Own w (.slice A n c) us) : Rw w A us := fun hne => by
  rcases h.2 with ⟨_, h0⟩ | ⟨g, cap, cur, hv, _, hg, _, _, _, ht⟩
  · exact absurd (List.eq_nil_of_length_eq_zero h0) hne
  · injection hv with h1 _ _
    refine ⟨g, cur.toList, h1, by unfold Has; simpa using hg, fun j hj => ?_⟩
    have h2 : (cur.toList.take (us.length * 1))[j]? = (Ar.ints us)[j]? := by rw [ht]
    rw [List.getElem?_take_of_lt (by omega), Ar.ints_get us j hj] at h2
    exact h2
/-- The cells that an address has: none, or one, with which of its words that is. -/
def fou1 (cs : List Cel) (u : Int) : List (Cel × Int) := match celA cs u with
  | some c => [(c, wordR u - 2 * c.a)]
  | none => []
def fou (cs : List Cel) (us : List Int) : List (Cel × Int) := us.flatMap (fou1 cs)
theorem fou_step {cs : List Cel} {us : List Int} {j : Nat} (hj : j < us.length) : fou cs (us.take (j + 1)) = fou cs (us.take j) ++ fou1 cs (us.getD j 0) := by
  unfold fou
  rw [List.take_add_one, List.getElem?_eq_getElem hj, List.flatMap_append]
  simp [List.getD, List.getElem?_eq_getElem hj]
theorem fou_len (cs : List Cel) : ∀ us : List Int, (fou cs us).length ≤ us.length
  | [] => Nat.le_refl _
  | u :: us => by
    have := fou_len cs us
    have h1 : (fou1 cs u).length ≤ 1 := by unfold fou1; split <;> simp
    show (fou1 cs u ++ fou cs us).length ≤ us.length + 1
    rw [List.length_append]
    omega
theorem fou_one (cs : List Cel) (u : Int) : fou cs [u] = fou1 cs u := by unfold fou; simp
end Go.Proofs.YtdfnphgjjodfoaaGreatDoor.Fd

/-
  Stage 11, find: the contract of cells: what is found is called for each address that a cell has, in order.
-/
namespace Go.Proofs.YtdfnphgjjodfoaaGreatDoor.Fd
open Go.RowKit Go.Proofs.YtdfnphgjjodfoaaGreatDoor.Ar Go.Proofs.YtdfnphgjjodfoaaGreatDoor.Sp
open Go.Proofs.YtdfnphgjjodfoaaGreatDoor.Hd (Hd fitL wordI)
open Go.Proofs.YtdfnphgjjodfoaaGreatDoor.Tb (Ty)
open Go.Proofs.YtdfnphgjjodfoaaGreatDoor.Sh (wordR wordB)
set_option linter.unusedVariables false

set_option maxRecDepth 100000 in
set_option maxHeartbeats 4000000 in
theorem fcells_ok {w : World} {p : Option Addr} {cs : List Cel} {ws : List Int} {l : List Ty} {ec : Int} (hT : Tiled ws l 0 cs ec) (he : ec ≤ 32768)
    (hC : Calls Tryz.prog 19 #[.pointer p] w fun e z => ∃ v, e = .returned v ∧ Sp.Own z v cs ∧ Sp.FreshV w v ∧ Kept [] w z)
    (fi : Nat) (lb : Array Value) (eg : ∀ args w, (callFunc fi args).run Tryz.prog w = .ok (.enter fi args) w) (S : List Nat) {A : Option Addr} {cap : Nat} (us : List Int) (hA : Rw w A us) (hu : ∀ u ∈ us, 0 ≤ u ∧ u < 18446744073709551616) (hlen : us.length ≤ 1000000)
    (hS : ∀ b ∈ S, ∃ t cs, Has w b t cs ∧ t ≠ 24)
    (J : List (Cel × Int) → World → Prop) (hJ : ∀ pre X Y, J pre X → Kept [] X Y → J pre Y) (h0 : J [] w)
    (hY : ∀ pre c k X, c ∈ cs → 0 ≤ k → k < 2 * c.h.sz → pre.length < us.length → J pre X → Calls Tryz.prog fi (#[c.val, .int .i64 k] ++ lb) X fun e y => e = .returned (.tuple #[]) ∧ J (pre ++ [(c, k)]) y ∧ Kpi S X y) :
    Calls Tryz.prog 30 #[.pointer p, .func (.func fi) #[] lb, .slice A us.length cap] w fun e y => e = .returned (.tuple #[]) ∧ J (fou cs us) y ∧ Kpi S w y := by
  have hlc : cs.length ≤ 32768 := by
    have := tiled_len hT
    omega
  have HC := Lib.hid hC
  have HT := Lib.hid hT
  have HA := Lib.hid hA
  have HU := Lib.hid hu
  have HS := Lib.hid hS
  have HJ := Lib.hid hJ
  have H0 := Lib.hid h0
  have HY := Lib.hid hY
  have HBd := Lib.hid (bounds_of hT he)
  have HRi : Hid (∀ j k, j < k → k < cs.length → endC (cs.getD j Cel.zero) ≤ endC (cs.getD k Cel.zero)) := Lib.hid fun j k h1 h2 => ends_rise hT he h1 h2
  clear hC hT hA hu hS hJ h0 hY
  go_enter Tryz.func30, Tryz.ntmps30
  go_wp2_with fail
  refine HC.out.mono ?_
  rintro e w1 ⟨v, rfl, hO, hV, hk⟩
  obtain ⟨Ac, cc, rfl, _⟩ := Sp.back_own (Kept.refl [] _) hO
  have HRo : Hid (∀ X, Kpi S w1 X → Sp.Seen X Ac cs) := Lib.hid fun X k => (own_kpi hO k fun b hb e => by
    obtain ⟨t, cs', h1, _⟩ := HS.out b hb
    have h2 := h1.lt
    rcases hV with h | ⟨b', h, h3⟩
    · rw [h] at e; cases e
    · rw [h] at e
      injection e with e
      omega).seen
  have HRw : Hid (∀ X, Kpi S w1 X → ∀ j, j < us.length → ∃ g, A = some ⟨g, 0, none⟩ ∧ X.cell? ⟨g, j, none⟩ = some (.int .u64 (us.getD j 0))) := Lib.hid fun X k j hj => HA.out.at HS.out ((Kpi.keep0 hk).trans k) j hj
  have HK1 : Hid (Kpi S w w1) := Lib.hid (Kpi.keep0 hk)
  have H1 : Hid (J (fou cs (us.take 0)) w1 ∧ Kpi S w1 w1) := Lib.hid ⟨by simpa [fou] using HJ.out _ _ _ H0.out hk, Kpi.refl _ _⟩
  clear hO hV hk H0 HA HS HC
  go_wp2_with fail
  go_loopw [17] (fun t wr => ∃ j : Nat, t = .int .i64 (j : Int) ∧ j ≤ us.length ∧ Hid (J (fou cs (us.take j)) wr ∧ Kpi S w1 wr)) (fun t _ => us.length - (intOf t).toNat)
  case atStart => exact ⟨0, rfl, Nat.zero_le _, H1⟩
  case round =>
    clear H1
    obtain ⟨j, rfl, hj, hr⟩ := hrel
    by_cases hlt : j < us.length
    · obtain ⟨g, rfl, c0⟩ := HRw.out _ hr.out.2 j hlt
      have hst := fou_step (cs := cs) hlt
      have hul := HU.out (us.getD j 0) (by rw [List.getD_eq_getElem?_getD, List.getElem?_eq_getElem hlt]; exact List.getElem_mem hlt)
      have hpl : (fou cs (us.take j)).length < us.length := by
        have := fou_len cs (us.take j)
        rw [List.length_take] at this
        omega
      generalize us.getD j 0 = u at *
      have HW := Lib.hid (fun y : World => Sh.word_ok (w := y) u hul.1 hul.2)
      obtain ⟨i, hi⟩ : ∃ i, wordR u = i := ⟨_, rfl⟩
      have hi0 : 0 ≤ i ∧ i < 65536 := by rw [← hi]; unfold wordR; split <;> omega
      have HI := Lib.hid hi
      rw [hi] at HW
      clear hi hul
      cases hb : wordB u with
      | false =>
        rw [hb] at HW
        have hf : fou1 cs u = [] := by unfold fou1 celA; rw [hb]; simp
        rw [hf, List.append_nil] at hst
        have HN : Hid (∀ y, Kept [] wr y → J (fou cs (us.take (j + 1))) y ∧ Kpi S w1 y) := Lib.hid fun y hy => ⟨by rw [hst]; exact HJ.out _ _ _ hr.out.1 hy, hr.out.2.trans (Kpi.keep0 hy)⟩
        clear hst hf hpl hr hb
        go_wp2_with fail
        refine (HW.out _).mono ?_
        rintro e1 y ⟨rfl, rfl⟩
        go_wp2_with fail
        go_roundw
        case rel => exact ⟨j + 1, by go_num, by omega, Lib.hid (HN.out _ ((Kept.refl [] _).alloc _))⟩
        case measure => simp [intOf] <;> omega
      | true =>
        rw [hb] at HW
        have hq : celA cs u = celW cs i := by unfold celA; rw [if_pos hb, HI.out]
        have HQ := Lib.hid hq
        have HSt := Lib.hid hst
        have ky := (Kept.refl [] wr).alloc (.cells #[.int .i64 i] 3)
        have HB : Hid (Has (wr.alloc (.cells #[.int .i64 i] 3)) wr.heap.size 3 [.int .i64 i]) := Lib.hid (Has.new wr 3 [.int .i64 i])
        have HFi := Lib.hid (first_ok (cap := cc) cs (HRo.out _ (hr.out.2.trans (Kpi.keep0 ky))) HB.out hlc HBd.out HRi.out)
        have HJ1 : Hid (J (fou cs (us.take j)) (wr.alloc (.cells #[.int .i64 i] 3)) ∧ Kpi S w1 (wr.alloc (.cells #[.int .i64 i] 3))) := Lib.hid ⟨HJ.out _ _ _ hr.out.1 ky, hr.out.2.trans (Kpi.keep0 ky)⟩
        clear hq hst hb hr ky
        go_wp2_with fail
        refine (HW.out _).mono ?_
        rintro e1 y ⟨rfl, rfl⟩
        go_wp2_with fail
        refine HFi.out.mono ?_
        rintro e1 y2 ⟨⟨k, hk, hlo, hhi, rfl⟩, k2⟩
        have hcw := celW_first HT.out he hi0.1 hk hlo hhi
        have hjk := HJ.out _ _ _ HJ1.out.1 k2
        have hkk := HJ1.out.2.trans (Kpi.keep0 k2)
        have hib := HB.out.keep0 k2
        clear hlo hhi HFi HJ1 HB HW k2
        generalize wr.alloc (.cells #[.int .i64 i] 3) = y1 at *
        generalize wr.heap.size = ib at *
        by_cases hkl : k < cs.length
        · rw [if_pos hkl] at hcw
          rw [decide_eq_true hkl]
          have hm := getD_mem hkl
          obtain ⟨m1, m2, m3⟩ := celW_mem hcw
          generalize cs.getD k Cel.zero = c at *
          obtain ⟨c0', c1', c2', c3', c4'⟩ := HBd.out c hm
          have hc := Has.new y2 37 [.int .i64 c.a, .int .u8 c.h.tg, .int .i64 c.h.ty, .int .i64 c.h.ln, .int .i64 c.h.sz]
          have ka := (Kept.refl [] y2).alloc (.cells #[.int .i64 c.a, .int .u8 c.h.tg, .int .i64 c.h.ty, .int .i64 c.h.ln, .int .i64 c.h.sz] 37)
          have hF : fou1 cs u = [(c, i - 2 * c.a)] := by unfold fou1; rw [HQ.out, hcw, HI.out]
          have HYc := Lib.hid (HY.out (fou cs (us.take j)) c (i - 2 * c.a) _ hm (by omega) (by omega) hpl (HJ.out _ _ _ hjk ka))
          have hst := HSt.out
          rw [hF] at hst
          have HSt2 := Lib.hid hst
          have HKk := Lib.hid (hkk.trans (Kpi.keep0 ka))
          have hi2 := (hib.keep0 ka).cell 0
          simp at hi2
          obtain ⟨d0, d1, d2, d3, d4⟩ := cells5 hc
          have hwr : IntKind.i64.wrap (c.a * 2) = c.a * 2 := by rw [IntKind.wrap_i64]; omega
          have hwr2 : IntKind.i64.wrap (i - c.a * 2) = i - 2 * c.a := by rw [IntKind.wrap_i64]; omega
          clear hF hst hcw hm hjk hkk hib ka hc HQ HSt HI
          obtain ⟨ca, ⟨ct, cy, cl, cz⟩⟩ := c
          unfold Cel.val at HYc ⊢
          simp only at *
          go_wp2_with fail
          refine HYc.out.mono ?_
          rintro e1 y3 ⟨rfl, hj3, k3⟩
          have HN : Hid (J (fou cs (us.take (j + 1))) y3 ∧ Kpi S w1 y3) := Lib.hid ⟨by rw [HSt2.out]; exact hj3, HKk.out.trans k3⟩
          clear hj3 k3 HYc HSt2 HKk d0 d1 d2 d3 d4 hwr hwr2 hi2
          go_wp2_with fail
          go_roundw
          case rel => exact ⟨j + 1, by go_num, by omega, HN⟩
          case measure => simp [intOf] <;> omega
        · rw [if_neg hkl] at hcw
          rw [decide_eq_false hkl]
          have hF : fou1 cs u = [] := by unfold fou1; rw [HQ.out, hcw]
          have hst := HSt.out
          rw [hF, List.append_nil] at hst
          have HN : Hid (∀ y, Kept [] y2 y → J (fou cs (us.take (j + 1))) y ∧ Kpi S w1 y) := Lib.hid fun y hy => ⟨by rw [hst]; exact HJ.out _ _ _ hjk hy, hkk.trans (Kpi.keep0 hy)⟩
          clear hF hst hcw hjk hkk hib HQ HSt HI
          generalize cs.getD k Cel.zero = c at *
          obtain ⟨ca, ⟨ct, cy, cl, cz⟩⟩ := c
          unfold Cel.val
          simp only at *
          go_wp2_with fail
          go_roundw
          case rel => exact ⟨j + 1, by go_num, by omega, Lib.hid (HN.out _ ((Kept.refl [] _).alloc _))⟩
          case measure => simp [intOf] <;> omega
    · obtain rfl : j = us.length := by omega
      have HN : Hid (J (fou cs us) wr ∧ Kpi S w wr) := Lib.hid ⟨by have := hr.out.1; rwa [List.take_length] at this, HK1.out.trans hr.out.2⟩
      clear hr
      go_wp2_with fail
      go_end0
      exact ⟨rfl, HN.out⟩
end Go.Proofs.YtdfnphgjjodfoaaGreatDoor.Fd
