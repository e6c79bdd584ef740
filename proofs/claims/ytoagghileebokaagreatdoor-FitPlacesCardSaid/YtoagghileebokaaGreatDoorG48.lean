/-
  Several texts in one: FtStr, FtUse.
-/
import Derived.Test.YtoagghileebokaaGreatDoorG43
import Derived.Shelf.RegionOpen
import Derived.Test.YtoagghileebokaaGreatDoorG52
import Derived.Test.YtoagghileebokaaGreatDoorG46
import Derived.Test.YtoagghileebokaaGreatDoorG47
/-
  Stage 13, fit: the loop over the stretches of granules that are free: the contract of the function that stretches hands back.
-/
namespace Go.Proofs.YtoagghileebokaaGreatDoor.Ft
open Go.RowKit Go.Proofs.YtoagghileebokaaGreatDoor.Ar Go.Proofs.YtoagghileebokaaGreatDoor.Lk Go.Shelf Go.Sort
open Go.Proofs.YtoagghileebokaaGreatDoor.Sp (Cel El encs vals vals_snoc cells5 grownBy_of)
set_option linter.unusedVariables false
attribute [local go_sem] Oper.semAt_some

theorem yield_any {k m m' : Nat} {P : Program} {y : Nat} {args : Array Value} {W : World} {R : Ending → World → Prop} (h : YieldAt Fence.wide m P y args W R) : YieldAt (Fence.wide.inRound k) m' P y args W R :=
  let ⟨fn, tmps, assign, body, hy, h1, h2⟩ := h
  ⟨fn, tmps, assign, body, hy, h1, fun c cs _ => h2 c cs (room_wide _)⟩
theorem strF_gaps (bl : Nat → Bool) : ∀ cs : List Cel, strF bl (gapsF cs) = strF bl cs
  | [] => rfl
  | c :: cs => by
    show strF bl (gapsF (c :: cs)) = strC bl c ++ strF bl cs
    rw [← strF_gaps bl cs]
    unfold gapsF
    by_cases h : c.h.tg = 1
    · rw [List.filter_cons_of_neg (by simpa using h)]
      unfold strC
      rw [if_pos h]
      rfl
    · rw [List.filter_cons_of_pos (by simpa using h)]
      rfl
theorem strF_snoc (bl : Nat → Bool) (P : List Cel) (c : Cel) : strF bl (P ++ [c]) = strF bl P ++ strC bl c := by
  rw [strF_append]
  show _ ++ (strC bl c ++ []) = _
  rw [List.append_nil]
abbrev ElS (L : List (Nat × Nat)) := { p : Nat × Nat // p ∈ L }
def encS {L : List (Nat × Nat)} (x : ElS L) : Array Value := #[.agg #[.int .i64 (x.1.1 : Int), .int .i64 (x.1.2 : Int)]]
def valsS {L : List (Nat × Nat)} (xs : List (ElS L)) : List (Nat × Nat) := xs.map (·.1)
theorem valsS_snoc {L : List (Nat × Nat)} (xs : List (ElS L)) (x : ElS L) : valsS (xs ++ [x]) = valsS xs ++ [x.1] := by simp [valsS]
/-- What is known of those stretches that came ahead. -/
def StrAt (L : List (Nat × Nat)) (pre : List (ElS L)) (x : ElS L) : Prop := ∃ rest, L = valsS pre ++ x.1 :: rest
set_option maxRecDepth 100000 in
set_option maxHeartbeats 8000000 in
theorem stretches1_in (n : Nat) (hn : 4 ≤ n) (S : List Nat) (bb bs : Nat) (vp : Value) (p : Option Addr) (cs : List Cel) (hs : List Int) (bl : Nat → Bool) (y : Nat) (J Jx : List (ElS (strF bl cs)) → World → Prop) (W : World)
    (hJ : OwnFrom W.heap.size J) (hJx : OwnFrom W.heap.size Jx)
    (hY : ∀ pre x W1, J pre W1 → StrAt (strF bl cs) pre x → YieldAt Fence.wide (n - 1) Tryz.prog y (encS x) W1 fun e W' => KeepsFrom W.heap.size W1 W' ∧
      ((e = .returned (.bool true) ∧ J (pre ++ [x]) W' ∧ Kc S W1 W') ∨ (e = .returned (.bool false) ∧ Jx (pre ++ [x]) W')))
    (hBb : Has W bb 31 [vp]) (hBs : Has W bs 29 [.pointer p])
    (hL : ∀ x, Kept [] W x → Calls Tryz.prog 58 #[vp] x fun e z => ∃ v, e = .returned v ∧ Ir.Own z v hs ∧ (v.ownBlock = none ∨ ∃ b, v.ownBlock = some b ∧ x.heap.size ≤ b) ∧ Kept [] x z)
    (hC : ∀ x, Kept [] W x → Calls Tryz.prog 12 #[.pointer p] x fun e z => ∃ v, e = .returned v ∧ Sp.Own z v cs ∧ Sp.FreshV x v ∧ Kept [] x z)
    (H : Hts bl hs) (hT : ∀ c ∈ cs, 0 ≤ c.a ∧ 0 ≤ c.h.sz ∧ c.a + c.h.sz ≤ 32768) (hlen : cs.length ≤ 32768) (hS : ∀ b ∈ S, b < W.heap.size) (h0 : J [] W) :
    CallsIn Fence.wide n Tryz.prog 57 #[.func (.yield y) #[] #[], .pointer (some ⟨bb, 0, none⟩), .pointer (some ⟨bs, 0, none⟩)] W fun e' W' => (∃ v, e' = .returned v) ∧
      ((∃ xs, valsS xs = strF bl cs ∧ J xs W') ∨ (∃ pre, (∃ rest, strF bl cs = valsS pre ++ rest) ∧ Jx pre W')) := by
  have hn1 : 1 ≤ n := by omega
  have hn2 : 1 ≤ n - 1 - 1 := by omega
  have k1 : Kept [] W (W.alloc (.cells #[.func (.yield y) #[] #[]] 89)) := (Kept.refl [] W).alloc _
  have cb := (hBb.keep0 k1).cell 0
  simp at cb
  have Hyb := Lib.hid (Has.new W 89 [.func (.yield y) #[] #[]])
  have HBs := Lib.hid (hBs.keep0 k1)
  have HL := Lib.hid (hL _ k1)
  have HC := Lib.hid hC
  have HS := Lib.hid hS
  have H0 := Lib.hid h0
  have HY := Lib.hid hY
  have HJ := Lib.hid hJ
  have HJx := Lib.hid hJx
  have HH := Lib.hid H
  have HT := Lib.hid hT
  have K1 := Lib.hid k1
  clear hL hC hS h0 hY hJ hJx hBb hBs H hT k1
  refine (callsIn_of_wp_marks Tryz.func57 rfl trivial ?_ rfl)
  simp only [Tryz.ntmps57, List.size_toArray, List.length_cons, List.length_nil, Nat.reduceAdd, Nat.reduceSub, Array.replicate_succ, Array.replicate_zero, List.push_toArray, List.append_toArray, List.nil_append, List.cons_append]
  gi_wp2_with (fail)
  refine ⟨trivial, (callsIn_wide.2 HL.out).mono ?_⟩
  rintro e z ⟨v, rfl, hO, hV, hk⟩
  obtain ⟨A, c, rfl, _⟩ := Ir.back_own (Kept.refl [] z) hO
  have kz : Kept [] W z := K1.out.trans hk
  have k2 : Kept [] W (z.alloc (.cells #[.slice A hs.length c] 24)) := kz.alloc _
  have hyb := (Hyb.out.keep0 hk).alloc (.cells #[.slice A hs.length c] 24)
  have hhb := Has.new z 24 [.slice A hs.length c]
  have hbs := (HBs.out.keep0 hk).alloc (.cells #[.slice A hs.length c] 24)
  have cs2 := hbs.cell 0
  simp at cs2
  have hrh : Rh (z.alloc (.cells #[.slice A hs.length c] 24)) (.slice A hs.length c) hs := rh_own (hO.keep0 ((Kept.refl [] z).alloc _))
  have hfr : ∀ b ∈ S, (Value.slice A hs.length c).ownBlock ≠ some b := fun b hb e => by
    have h2 := HS.out b hb
    rcases hV with h | ⟨b', h, h3⟩
    · rw [h] at e; cases e
    · rw [h] at e
      injection e with e
      have := K1.out.more
      omega
  have hhs : W.heap.size ≤ z.heap.size := kz.more
  have Hyb2 := Lib.hid hyb
  have Hhb2 := Lib.hid hhb
  have Hrh2 := Lib.hid hrh
  have Hfr := Lib.hid hfr
  have K2 := Lib.hid k2
  clear hyb hhb hbs hrh hfr k2 kz hk hO hV Hyb HBs HL K1 cb
  gi_wp2_with (fail)
  refine ⟨trivial, (callsIn_wide.2 (gaps_ok p _)).mono ?_⟩
  rintro e w3 ⟨rfl, hw3⟩
  have hgb : Has w3 (z.heap.size + 1) 29 [.pointer p] := by
    rw [hw3]
    have := Has.new (z.alloc (.cells #[.slice A hs.length c] 24)) 29 [.pointer p]
    rwa [World.size_alloc] at this
  have k3 : Kept [] (z.alloc (.cells #[.slice A hs.length c] 24)) w3 := by rw [hw3]; exact (Kept.refl [] _).alloc _
  have hsz3 : w3.heap.size = z.heap.size + 2 := by rw [hw3]; simp
  have HYb : Hid (∀ X, Kc S w3 X → Has X W.heap.size 89 [.func (.yield y) #[] #[]]) := Lib.hid fun X k => k.has _ _ _ (fun hm => by have := HS.out _ hm; omega) (Hyb2.out.keep0 k3)
  have HHb : Hid (∀ X, Kc S w3 X → Has X z.heap.size 24 [.slice A hs.length c]) := Lib.hid fun X k => k.has _ _ _ (fun hm => by have := HS.out _ hm; omega) (Hhb2.out.keep0 k3)
  have HRh : Hid (∀ X, Kc S w3 X → Rh X (.slice A hs.length c) hs) := Lib.hid fun X k => (Hrh2.out.kc (Kc.keep0 (S := S) k3) Hfr.out).kc k Hfr.out
  have K3 : Hid (Kept [] W w3) := Lib.hid (K2.out.trans k3)
  have Hgb := Lib.hid hgb
  have HSz : W.heap.size ≤ w3.heap.size := K3.out.more
  have HJk : Hid (∀ prs X Y, J prs X → Kept [] X Y → J prs Y) := Lib.hid fun prs X Y h k => HJ.out prs X Y none h (grownBy_of k) (fun r e => by cases e)
  have H3 : Hid (J [] w3) := Lib.hid (HJk.out _ _ _ H0.out K3.out)
  clear hgb k3 hw3 Hyb2 Hhb2 Hrh2 K2 H0 cs2
  obtain ⟨zb, hzb⟩ : ∃ zb, z.heap.size = zb := ⟨_, rfl⟩
  obtain ⟨gb, hgb⟩ : ∃ gb, zb + 1 = gb := ⟨_, rfl⟩
  rw [hzb] at HHb Hgb hsz3 ⊢
  rw [hgb] at Hgb
  simp only [World.size_alloc, hzb, hgb]
  clear hzb hgb hhs
  gi_wp2_with (fail)
  refine Rk.wpIn_range rfl hn1 (gf := 95) (lb := #[.pointer (some ⟨gb, 0, none⟩)]) rfl trivial (enters_of Tryz.func95 (by kernel_rfl) rfl)
    (gaps_seq (n - 1) (by omega) S gb p cs w3 Hgb.out (fun x k => HC.out x (K3.out.trans k)) hlen (fun b hb => Nat.lt_of_lt_of_le (HS.out b hb) HSz))
    (fun h k => h.trans k) (fun X r r' h => Kc.put X _ _ _ h rfl) (Below.refl _ _) (fun _ => rfl)
    (fun pre X => ∃ prs : List (ElS (strF bl cs)), valsS prs = strF bl (vals pre) ∧ J prs X ∧ Kc S w3 X)
    (fun c pre X => c = .ret ∧ ∃ prs : List (ElS (strF bl cs)), (∃ rest, strF bl (vals pre) = valsS prs ++ rest) ∧ Jx prs X)
    (fun s X Y row ⟨prs, h1, h2, h3⟩ hg hr => ⟨prs, h1, Rk.ownFrom_up HJ.out HSz prs X Y row h2 hg hr, Kc.own (β := Unit) w3.heap.size () X Y row h3 hg hr⟩)
    (fun c s X Y row ⟨h0, prs, h1, h2⟩ hg hr => ⟨h0, prs, h1, Rk.ownFrom_up HJx.out HSz prs X Y row h2 hg hr⟩)
    ⟨[], rfl, H3.out, Kc.refl _ _⟩
    (fun x a' X => ∃ Bx, Has X Bx 51 [.int .i64 x.1.a, .int .u8 x.1.h.tg, .int .i64 x.1.h.ty, .int .i64 x.1.h.ln, .int .i64 x.1.h.sz] ∧ a' = { tmps := #[.func (.yield y) #[] #[], .pointer (some ⟨bb, 0, none⟩), .pointer (some ⟨bs, 0, none⟩), .pointer (some ⟨W.heap.size, 0, none⟩), .pointer (some ⟨zb, 0, none⟩), .pointer (some ⟨Bx, 0, none⟩), undef, undef, undef, vp, .slice A hs.length c, .pointer p, .func (.func 95) #[] #[.pointer (some ⟨gb, 0, none⟩)], .agg #[.int .i64 x.1.a, .int .u8 x.1.h.tg, .int .i64 x.1.h.ty, .int .i64 x.1.h.ln, .int .i64 x.1.h.sz], undef, undef, undef, undef, undef, undef, undef, undef, undef, undef, undef, undef, undef, undef, undef, undef, undef, undef, undef, undef, undef, undef, undef, undef, undef, undef, undef, undef, undef, undef], defers := [] })
    (fun x a' _ X Y row hs' hg hr => by
      obtain ⟨Bx, h2, h3⟩ := hs'
      exact ⟨Bx, own_has (β := Unit) (f := fun _ => [.int .i64 x.1.a, .int .u8 x.1.h.tg, .int .i64 x.1.h.ty, .int .i64 x.1.h.ln, .int .i64 x.1.h.sz]) () X Y row h2 hg hr, h3⟩)
    ?assign ?body ?done ?stop
  case assign =>
    rintro l pre x X T ⟨prs, h1, h2, h3⟩ hT
    unfold encs
    have HT' := Lib.hid hT
    have H1' := Lib.hid h1
    have H2' := Lib.hid h2
    have H3' := Lib.hid h3
    clear h1 h2 h3 hT
    gi_wp2
    have hkn : Kept [] X (X.alloc (.cells #[.int .i64 x.1.a, .int .u8 x.1.h.tg, .int .i64 x.1.h.ty, .int .i64 x.1.h.ln, .int .i64 x.1.h.sz] 51)) := (Kept.refl [] X).alloc _
    exact HT'.out _ _ (keepsFrom_of hkn (by simp)) (Kc.keep0 hkn) ⟨prs, H1'.out, HJk.out _ _ _ H2'.out hkn, H3'.out.trans (Kc.keep0 hkn)⟩ ⟨X.heap.size, Has.new X _ _, rfl⟩
  case body =>
    rintro l pre x a' W0 ⟨prs, hprs, hJ0, hK0⟩ ⟨Bx, hX, rfl⟩ ⟨rest, hrest⟩
    have hsn : strF bl (vals (pre ++ [x])) = strF bl (vals pre) ++ strC bl x.1 := by rw [vals_snoc, strF_snoc]
    have hall : strF bl cs = strF bl (vals pre) ++ (strC bl x.1 ++ strF bl rest) := (strF_gaps bl cs).symm.trans ((congrArg (strF bl) hrest).trans (strF_append _ _))
    have hxm : x.1 ∈ cs := (List.mem_filter.1 x.2).1
    have hxt : x.1.h.tg ≠ 1 := by simpa using (List.mem_filter.1 x.2).2
    obtain ⟨t1, t2, t3⟩ := HT.out _ hxm
    have hcut : strC bl x.1 = cutB bl x.1.h.sz.toNat x.1.a.toNat (x.1.a.toNat + x.1.h.sz.toNat) := if_neg hxt
    obtain ⟨x0, x1, x2, x3, x4⟩ := cells5 hX
    have Hsn := Lib.hid hsn
    have Hall := Lib.hid hall
    have Hcut := Lib.hid hcut
    have HK0 := Lib.hid hK0
    have HJ0 := Lib.hid hJ0
    have Hprs := Lib.hid hprs
    clear hsn hall hrest hxm hxt hcut hK0 hJ0 hprs hX
    obtain ⟨⟨ca, ⟨ct, cy, cl, cz⟩⟩, hxx⟩ := x
    simp only at x0 x1 x2 x3 x4 t1 t2 t3 Hcut
    obtain ⟨a0, rfl⟩ : ∃ a0 : Nat, ca = (a0 : Int) := ⟨ca.toNat, by omega⟩
    obtain ⟨k0, rfl⟩ : ∃ k0 : Nat, cz = (k0 : Int) := ⟨cz.toNat, by omega⟩
    simp only [Int.toNat_natCast] at Hcut
    have H0r : Hid (∃ (f : Nat) (prs : List (ElS (strF bl cs))), a0 + k0 - a0 ≤ f ∧ valsS prs ++ cutB bl f a0 (a0 + k0) = strF bl (vals pre) ++ strC bl ⟨(a0 : Int), ⟨ct, cy, cl, (k0 : Int)⟩⟩ ∧ J prs W0 ∧ KeepsFrom w3.heap.size W0 W0 ∧ Kc S W0 W0) :=
      Lib.hid ⟨k0, prs, by omega, by rw [Hcut.out, Hprs.out], HJ0.out, KeepsFrom.refl _ _, Kc.refl _ _⟩
    clear HJ0 Hprs Hcut
    dsimp only
    gi_wp2_with (fail)
    clear x0 x1 x2 x3 x4
    gi_loopw [7] (fun t wr => ∃ a : Nat, t = .int .i64 (a : Int) ∧ a ≤ a0 + k0 + 1 ∧ Hid (∃ (f : Nat) (prs : List (ElS (strF bl cs))), a0 + k0 - a ≤ f ∧ valsS prs ++ cutB bl f a (a0 + k0) = strF bl (vals pre) ++ strC bl ⟨(a0 : Int), ⟨ct, cy, cl, (k0 : Int)⟩⟩ ∧ J prs wr ∧ KeepsFrom w3.heap.size W0 wr ∧ Kc S W0 wr)) (fun t _ => a0 + k0 + 1 - (intOf t).toNat)
    case atStart => exact ⟨a0, rfl, by omega, H0r⟩
    case round =>
      clear H0r
      obtain ⟨a, rfl, ha, hr⟩ := hrel
      obtain ⟨f, ps, hf, hps, hJp, hkf, hkc⟩ := hr.out
      by_cases hlt : a < a0 + k0
      · obtain ⟨f, rfl⟩ : ∃ g, f = g + 1 := ⟨f - 1, by omega⟩
        have hstep := cutB_step (bl := bl) hlt hf rfl
        obtain ⟨n1, n2, _, _⟩ := nxB_spec (bl := bl) (a0 + k0 - a) a
        have HN := Lib.hid (next_ok (HRh.out _ (HK0.out.trans hkc)) HH.out a (a0 + k0) (by omega) (by omega))
        have c4 := (HHb.out _ (HK0.out.trans hkc)).cell 0
        simp at c4
        generalize nxB bl (a0 + k0 - a) a = h at *
        have HYr := Lib.hid (HYb.out _ (HK0.out.trans hkc))
        have Hf := Lib.hid hf
        have Hstep := Lib.hid hstep
        have Hps := Lib.hid hps
        have HJp := Lib.hid hJp
        have Hkf := Lib.hid hkf
        have Hkc := Lib.hid hkc
        clear hr hf hstep hps hJp hkf hkc
        gi_wp2_with (fail)
        refine ⟨trivial, (CallsIn.inRound l (callsIn_wide.2 HN.out)).mono ?_⟩
        rintro e X ⟨rfl, hkX⟩
        have HJX := Lib.hid (HJk.out _ _ _ HJp.out hkX)
        have HkfX : Hid (KeepsFrom w3.heap.size W0 X) := Lib.hid (Hkf.out.trans (keepsFrom_of hkX (by simp)))
        have HkcX : Hid (Kc S W0 X) := Lib.hid (Hkc.out.trans (Kc.keep0 hkX))
        have c3 := (HYr.out.keep0 hkX).cell 0
        simp at c3
        clear hkX HJp Hkf Hkc HYr HN c4
        by_cases hah : a < h
        · have hps2 : valsS ps ++ ((a, h - a) :: cutB bl f (h + 1) (a0 + k0)) = strF bl (vals pre) ++ strC bl ⟨(a0 : Int), ⟨ct, cy, cl, (k0 : Int)⟩⟩ := by
            have h1 := Hps.out
            rw [Hstep.out, if_pos hah] at h1
            exact h1
          have hat : strF bl cs = valsS ps ++ ((a, h - a) :: (cutB bl f (h + 1) (a0 + k0) ++ strF bl rest)) := Hall.out.trans (by
            rw [← List.append_assoc, ← hps2, List.append_assoc]
            rfl)
          have hmem : (a, h - a) ∈ strF bl cs := by
            rw [hat]
            simp
          have Hyy := Lib.hid (yield_any (k := l) (m' := n - 1 - 1 - 1) (HY.out ps ⟨(a, h - a), hmem⟩ X HJX.out ⟨_, hat⟩))
          have hnext : valsS (ps ++ [⟨(a, h - a), hmem⟩]) ++ cutB bl f (h + 1) (a0 + k0) = strF bl (vals pre) ++ strC bl ⟨(a0 : Int), ⟨ct, cy, cl, (k0 : Int)⟩⟩ := by
            rw [valsS_snoc, List.append_assoc]
            exact hps2
          have Hnext := Lib.hid hnext
          have e1 : ((h : Int) - (a : Int)) = ((h - a : Nat) : Int) := by omega
          clear hps2 hat hnext Hps Hstep
          obtain ⟨fn, tmps, assign, body, hy, hR⟩ := Hyy.out
          dsimp only [encS] at hy
          rw [← e1] at hy
          clear Hyy e1
          gi_wp2_with (fail)
          first
            | refine hR.mono ?_
            | (rw [hy, Oper.uponIn_round]; refine ⟨fun h => by cases h, hR.mono ?_⟩)
          rintro e3 X3 ⟨hkf3, (⟨rfl, hJ3, hkc3⟩ | ⟨rfl, hJ3⟩)⟩
          · have HNx : Hid (∃ (f : Nat) (prs : List (ElS (strF bl cs))), a0 + k0 - (h + 1) ≤ f ∧ valsS prs ++ cutB bl f (h + 1) (a0 + k0) = strF bl (vals pre) ++ strC bl ⟨(a0 : Int), ⟨ct, cy, cl, (k0 : Int)⟩⟩ ∧ J prs X3 ∧ KeepsFrom w3.heap.size W0 X3 ∧ Kc S W0 X3) :=
              Lib.hid ⟨f, _, by have := Hf.out; omega, Hnext.out, hJ3, HkfX.out.trans (Rk.keepsFrom_up hkf3 HSz), HkcX.out.trans hkc3⟩
            clear hJ3 hkf3 hkc3 hy hR Hnext HkfX HkcX HJX c3
            gi_wp2_with (fail)
            go_roundw
            case rel => exact ⟨h + 1, by go_num, by omega, HNx⟩
            case measure => simp [intOf] <;> omega
          · have HKF : Hid (KeepsFrom w3.heap.size W0 X3) := Lib.hid (HkfX.out.trans (Rk.keepsFrom_up hkf3 HSz))
            have HR2 : Hid (∃ rest, strF bl (vals (pre ++ [⟨⟨(a0 : Int), ⟨ct, cy, cl, (k0 : Int)⟩⟩, hxx⟩])) = valsS (ps ++ [⟨(a, h - a), hmem⟩]) ++ rest) := Lib.hid ⟨_, Hsn.out.trans Hnext.out.symm⟩
            have HJ3 := Lib.hid hJ3
            clear hy hR hkf3 hJ3 c3
            gi_wp2_with (fail)
            exact ⟨HKF.out, rfl, _, HR2.out, HJ3.out⟩
        · have hnl : h = a := by omega
          have HNx : Hid (∃ (f : Nat) (prs : List (ElS (strF bl cs))), a0 + k0 - (h + 1) ≤ f ∧ valsS prs ++ cutB bl f (h + 1) (a0 + k0) = strF bl (vals pre) ++ strC bl ⟨(a0 : Int), ⟨ct, cy, cl, (k0 : Int)⟩⟩ ∧ J prs X ∧ KeepsFrom w3.heap.size W0 X ∧ Kc S W0 X) :=
            Lib.hid ⟨f, ps, by have := Hf.out; omega, by
              have h1 := Hps.out
              rw [Hstep.out, if_neg hah] at h1
              exact h1, HJX.out, HkfX.out, HkcX.out⟩
          clear HJX HkfX HkcX Hps Hstep c3
          subst hnl
          gi_wp2_with (fail)
          refine ⟨(fun f h => by cases h), ?_⟩
          gi_wp2_with (fail)
          go_roundw
          case rel => exact ⟨h + 1, by go_num, by omega, HNx⟩
          case measure => simp [intOf] <;> omega
      · have HE : Hid (valsS ps = strF bl (vals (pre ++ [⟨⟨(a0 : Int), ⟨ct, cy, cl, (k0 : Int)⟩⟩, hxx⟩]))) := Lib.hid (by
          rw [cutB_end (by omega), List.append_nil] at hps
          exact hps.trans Hsn.out.symm)
        have HJp := Lib.hid hJp
        have Hkf := Lib.hid hkf
        have Hkc := Lib.hid hkc
        clear hr hf hps hJp hkf hkc
        gi_wp2_with (fail)
        exact ⟨Hkf.out, Hkc.out, ps, HE.out, HJp.out, HK0.out.trans Hkc.out⟩
  case done =>
    rintro D xs X hD hx ⟨prs, hprs, hJp, _⟩ hK
    have HKd := Lib.hid hK
    have HE : Hid (valsS prs = strF bl cs) := Lib.hid (by rw [hprs, hx, strF_gaps])
    have HJp := Lib.hid hJp
    clear hK hprs hJp hx
    gi_wp2_with (fail)
    refine ⟨by simp, .inl ⟨_, _, rfl, run_takeDeferred HKd.out, ?_⟩⟩
    exact ⟨_, results_none rfl _ _ _, ⟨_, rfl⟩, .inl ⟨prs, HE.out, HJ.out.putObj _ HJp.out (Nat.le_trans HSz hD) HKd.out rfl⟩⟩
  case stop =>
    rintro D c' pre X hD ⟨rest, hx⟩ ⟨rfl, prs, ⟨rest', hr'⟩, hJp⟩ hK
    have HKd := Lib.hid hK
    have HE : Hid (∃ rest, strF bl cs = valsS prs ++ rest) := Lib.hid ⟨rest' ++ strF bl rest, (strF_gaps bl cs).symm.trans ((congrArg (strF bl) hx).trans (by rw [strF_append, hr', List.append_assoc]))⟩
    have HJp := Lib.hid hJp
    clear hK hr' hJp hx
    gi_wp2_with (fail)
    refine ⟨by simp, .inl ⟨_, _, rfl, run_takeDeferred HKd.out, ?_⟩⟩
    exact ⟨_, results_none rfl _ _ _, ⟨_, rfl⟩, .inr ⟨prs, HE.out, HJx.out.putObj _ HJp.out (Nat.le_trans HSz hD) HKd.out rfl⟩⟩
end Go.Proofs.YtoagghileebokaaGreatDoor.Ft

/-
  Stage 13, fit: the program's functions over stretches: lowest, greatest, and what they ask; whence stretches come.
-/
namespace Go.Proofs.YtoagghileebokaaGreatDoor.Ft
open Go.RowKit Go.Proofs.YtoagghileebokaaGreatDoor.Ar Go.Proofs.YtoagghileebokaaGreatDoor.Lk Go.Shelf Go.Sort
open Go.Proofs.YtoagghileebokaaGreatDoor.Sp (Cel tot Tiled Has0 Ids can_sz grownBy_of)
open Go.Proofs.YtoagghileebokaaGreatDoor.Tb (Ty)
open Go.Proofs.YtoagghileebokaaGreatDoor.Bk (Pb hasL listL listFrom I64)
set_option linter.unusedVariables false
attribute [local go_sem] Oper.semAt_some

/-! ### whence stretches come -/
theorem listFrom_mem : ∀ (i : Nat) (ls : List Int) (g : Nat), (g : Int) ∈ listFrom i ls ↔ i ≤ g ∧ g < i + ls.length ∧ 0 < ls.getD (g - i) 0
  | i, [], g => ⟨fun h => (by cases h), fun ⟨h1, h2, _⟩ => (by have h2 : g < i + 0 := h2; omega)⟩
  | i, x :: ls, g => by
    have ih := listFrom_mem (i + 1) ls g
    have e : (g : Int) ∈ listFrom i (x :: ls) ↔ (0 < x ∧ g = i) ∨ (g : Int) ∈ listFrom (i + 1) ls := by
      show (g : Int) ∈ (if 0 < x then (i : Int) :: listFrom (i + 1) ls else listFrom (i + 1) ls) ↔ _
      by_cases hx : 0 < x
      · rw [if_pos hx, List.mem_cons]
        constructor
        · rintro (h | h)
          · exact .inl ⟨hx, by omega⟩
          · exact .inr h
        · rintro (⟨_, h⟩ | h)
          · exact .inl (by omega)
          · exact .inr h
      · rw [if_neg hx]
        exact ⟨.inr, fun h => h.resolve_left fun h => hx h.1⟩
    rw [e, ih, List.length_cons]
    rcases Nat.lt_trichotomy g i with h | h | h
    · exact ⟨by rintro (⟨_, h1⟩ | ⟨h1, _⟩) <;> omega, fun ⟨h1, _⟩ => by omega⟩
    · subst h
      rw [Nat.sub_self]
      show _ ↔ _ ∧ _ ∧ 0 < x
      exact ⟨by rintro (⟨h1, _⟩ | ⟨h1, _⟩); exact ⟨Nat.le_refl _, by omega, h1⟩; omega, fun ⟨_, _, h1⟩ => .inl ⟨h1, rfl⟩⟩
    · rw [show g - i = (g - (i + 1)) + 1 by omega]
      show _ ↔ _ ∧ _ ∧ 0 < ls.getD (g - (i + 1)) 0
      constructor
      · rintro (⟨_, h1⟩ | ⟨h1, h2, h3⟩)
        · omega
        · exact ⟨by omega, by omega, h3⟩
      · rintro ⟨h1, h2, h3⟩
        exact .inr ⟨by omega, by omega, h3⟩
theorem listFrom_low : ∀ (i : Nat) (ls : List Int), ∀ x ∈ listFrom i ls, (i : Int) ≤ x ∧ x < (i : Int) + ls.length
  | i, [], x, h => by cases h
  | i, y :: ls, x, h => by
    have ih := listFrom_low (i + 1) ls x
    have h : x ∈ (if 0 < y then (i : Int) :: listFrom (i + 1) ls else listFrom (i + 1) ls) := h
    rw [List.length_cons]
    by_cases hy : 0 < y
    · rw [if_pos hy] at h
      rcases List.mem_cons.1 h with h | h
      · omega
      · have := ih h
        omega
    · rw [if_neg hy] at h
      have := ih h
      omega
theorem listFrom_rise : ∀ (i : Nat) (ls : List Int), (listFrom i ls).Pairwise (· < ·)
  | i, [] => List.Pairwise.nil
  | i, y :: ls => by
    have ih := listFrom_rise (i + 1) ls
    show (if 0 < y then (i : Int) :: listFrom (i + 1) ls else listFrom (i + 1) ls).Pairwise _
    by_cases hy : 0 < y
    · rw [if_pos hy]
      refine List.pairwise_cons.2 ⟨fun z hz => ?_, ih⟩
      have := (listFrom_low (i + 1) ls z hz).1
      omega
    · rw [if_neg hy]
      exact ih
theorem hts_list {ls : List Int} (hl : ls.length ≤ 65536) : Hts (fun g : Nat => hasL ls (g : Int)) (listL ls) where
  rise := listFrom_rise 0 ls
  mem := fun g => by
    show hasL ls (g : Int) = true ↔ (g : Int) ∈ listFrom 0 ls
    rw [listFrom_mem]
    unfold Bk.hasL
    rw [decide_eq_true_iff, Int.toNat_natCast, Nat.sub_zero]
    exact ⟨fun ⟨_, h1, h2⟩ => ⟨Nat.zero_le _, by omega, h2⟩, fun ⟨_, h1, h2⟩ => ⟨by omega, by omega, h2⟩⟩
  low := fun x hx => by
    have := listFrom_low 0 ls x hx
    omega
  few := Nat.le_trans (Bk.listFrom_len 0 ls) hl
theorem hts_none : Hts noB [] where
  rise := List.Pairwise.nil
  mem := fun g => ⟨fun h => (by cases h), fun h => (by cases h)⟩
  low := fun x hx => by cases hx
  few := by simp
/-- A space and a list, from a world on: what is called of them, and that the cells are well. -/
structure Src (w : World) (vp : Value) (p : Option Addr) (cs : List Cel) (bl : Nat → Bool) : Prop where
  ex : ∃ hs, Hts bl hs ∧ ∀ x, Kept [] w x → Calls Tryz.prog 58 #[vp] x fun e z => ∃ v, e = .returned v ∧ Ir.Own z v hs ∧ (v.ownBlock = none ∨ ∃ b, v.ownBlock = some b ∧ x.heap.size ≤ b) ∧ Kept [] x z
  cells : ∀ x, Kept [] w x → Calls Tryz.prog 12 #[.pointer p] x fun e z => ∃ v, e = .returned v ∧ Sp.Own z v cs ∧ Sp.FreshV x v ∧ Kept [] x z
  till : ∃ ws l, Tiled ws l 0 cs (tot cs) ∧ tot cs ≤ 32768
theorem Src.keep0 {w x : World} {vp : Value} {p : Option Addr} {cs : List Cel} {bl : Nat → Bool} (h : Src w vp p cs bl) (k : Kept [] w x) : Src x vp p cs bl :=
  ⟨let ⟨hs, h1, h2⟩ := h.ex; ⟨hs, h1, fun y hy => h2 y (k.trans hy)⟩, fun y hy => h.cells y (k.trans hy), h.till⟩
theorem src_of {w x : World} {s : Ids} {l : List Ty} {cs : List Cel} {vb : Value} {bl : Nat → Bool} {T : List Nat} (h : Both Wd.Table w x s l cs vb bl T) : Src x vb (some ⟨s.sp, 0, none⟩) cs bl := by
  obtain ⟨hT, hs, hl, _⟩ := h
  refine ⟨?_, fun y k => Sp.zero_cells (hs.keep0 k), ?_⟩
  · rcases hl with ⟨rfl, rfl, _⟩ | ⟨p, ls, rfl, hp, hN, rfl⟩
    · exact ⟨[], hts_none, fun y k => Bk.list_nil12.mono fun e z ⟨he, hk⟩ => ⟨_, he, Ir.Own.nil z, .inl rfl, hk⟩⟩
    · refine ⟨listL ls, hts_list (Bk.Pb.aged hp).2, fun y k => ?_⟩
      have hTy : Wd.Table y := Bt.tableKeep hT (hs.kept.trans k)
      obtain ⟨t, c, d, rfl, _, rfl, ho⟩ := Bk.Pb.keep0 hp k
      exact (Bk.list_own ho hTy).mono fun e z ⟨v, h1, h2, h3, h4⟩ => ⟨v, h1, h2, h3, h4⟩
  · obtain ⟨ws, bs, m⟩ := hs
    have hsm := m.snd.tiled.sum
    refine ⟨ws, l, ?_, ?_⟩
    · rw [show tot cs = Sp.gran ws by rw [← hsm]; omega]
      exact m.snd.tiled
    · have := m.spc.short
      have : Sp.gran ws = (ws.length : Int) / 2 := rfl
      omega
theorem src_few {ws : List Int} {l : List Ty} {cs : List Cel} (hT : Tiled ws l 0 cs (tot cs)) (h : tot cs ≤ 32768) : (∀ c ∈ cs, 0 ≤ c.a ∧ 0 ≤ c.h.sz ∧ c.a + c.h.sz ≤ 32768) ∧ cs.length ≤ 32768 := by
  refine ⟨fun c hc => ?_, ?_⟩
  · obtain ⟨m1, m2, m3, _⟩ := hT.mem c hc
    have := can_sz m3
    omega
  · have : ∀ {cs : List Cel} {f e : Int}, Tiled ws l f cs e → (cs.length : Int) ≤ e - f := by
      intro cs
      induction cs with
      | nil => intro f e h; have h : f = e := h; simp [h]
      | cons c cs ih =>
        intro f e h
        have h1 := ih h.2.2.2.2
        have h2 := can_sz h.2.1
        rw [List.length_cons]
        omega
    have := this hT
    omega
/-! ### the loop over stretches -/
theorem stretches_seq (n : Nat) (hn : 4 ≤ n) (S : List Nat) (bb bs : Nat) (vp : Value) (p : Option Addr) (cs : List Cel) (bl : Nat → Bool) {w0 w : World} (h : Src w0 vp p cs bl) (hk : Kept [] w0 w) (hBb : Has w bb 31 [vp]) (hBs : Has w bs 29 [.pointer p]) (hS : ∀ b ∈ S, b < w.heap.size) :
    Rk.SeqR Fence.wide n Tryz.prog 57 #[.pointer (some ⟨bb, 0, none⟩), .pointer (some ⟨bs, 0, none⟩)] (encS (L := strF bl cs)) (Kc S) (fun xs => valsS xs = strF bl cs) (fun pre => ∃ rest, strF bl cs = valsS pre ++ rest) (StrAt (strF bl cs)) w := by
  obtain ⟨⟨hs, H, hL⟩, hC, ws, l, hT, hN⟩ := h
  obtain ⟨t1, t2⟩ := src_few hT hN
  exact fun y J Jx W hW hJ hJx hY h0 => stretches1_in n hn S bb bs vp p cs hs bl y J Jx W hJ hJx hY (hBb.keep0 (Kept.ofBelow hW [])) (hBs.keep0 (Kept.ofBelow hW [])) (fun x k => hL x ((hk.trans (Kept.ofBelow hW [])).trans k)) (fun x k => hC x ((hk.trans (Kept.ofBelow hW [])).trans k)) H t1 t2 (fun b hb => Nat.lt_of_lt_of_le (hS b hb) hW.size) h0
/-- stretches hands back that function; it has the space and the list in boxes. -/
theorem stretches_ok (p : Option Addr) (vp : Value) (hv : vp.oneCell' = true) (w : World) : Calls Tryz.prog 32 #[.pointer p, vp] w fun e y => e = .returned (.func (.func 57) #[] #[.pointer (some ⟨w.heap.size + 1, 0, none⟩), .pointer (some ⟨w.heap.size, 0, none⟩)]) ∧
    y = (w.alloc (.cells #[.pointer p] 29)).alloc (.cells #[vp] 31) := by
  go_enter Tryz.func32, Tryz.ntmps32
  go_wp2_with fail
  go_ret
  exact ⟨by simp, rfl⟩
theorem fits_ok (n a k : Nat) (hn : n ≤ 9223372036854775807) (hk : k ≤ 1000000) (w : World) : Calls Tryz.prog 34 #[.int .i64 (n : Int), .agg #[.int .i64 (a : Int), .int .i64 (k : Int)]] w fun e y => e = .returned (.bool (decide (n ≤ k))) ∧ Kept [] w y := by
  have h := Has.new w 86 [.int .i64 (a : Int), .int .i64 (k : Int)]
  have c0 := h.cell 0
  have c1 := h.cell 1
  simp at c0 c1
  have hk2 : Kept [] w (w.alloc (.cells #[.int .i64 (a : Int), .int .i64 (k : Int)] 86)) := (Kept.refl [] w).alloc _
  have HK := Lib.hid hk2
  clear h hk2
  go_enter Tryz.func34, Tryz.ntmps34
  go_wp2_with fail
  go_ret
  exact ⟨ret_bool (by first | rfl | (congr 1; done) | (congr 1; apply propext; omega)), HK.out⟩
theorem length_ok (a k : Nat) (w : World) : Calls Tryz.prog 37 #[.agg #[.int .i64 (a : Int), .int .i64 (k : Int)]] w fun e y => e = .returned (.int .i64 (k : Int)) ∧ Kept [] w y := by
  have h := Has.new w 86 [.int .i64 (a : Int), .int .i64 (k : Int)]
  have c0 := h.cell 0
  have c1 := h.cell 1
  simp at c0 c1
  have hk2 : Kept [] w (w.alloc (.cells #[.int .i64 (a : Int), .int .i64 (k : Int)] 86)) := (Kept.refl [] w).alloc _
  have HK := Lib.hid hk2
  clear h hk2
  go_enter Tryz.func37, Tryz.ntmps37
  go_wp2_with fail
  go_ret
  exact ⟨rfl, HK.out⟩
end Go.Proofs.YtoagghileebokaaGreatDoor.Ft
