/-
  The contract of the document's Targets.
-/
import Derived.Test.YtpnjblledbihcaaDoorShRefs
import Derived.Test.YtpnjblledbihcaaDoorShHead
import Derived.Test.YtpnjblledbihcaaDoorGKd
namespace Go.Proofs.YtpnjblledbihcaaDoor.Sh
open Go.RowKit Go.Proofs.YtpnjblledbihcaaDoor.Ar
open Go.Proofs.YtpnjblledbihcaaDoor.Hd (Hd cells4)
open Go.Proofs.YtpnjblledbihcaaDoor.Tb (Ty cells3)
set_option linter.unusedVariables false

theorem pairs_length (ws : List Int) (g : Int) (t : Ty) (sl : Nat) : (pairs ws g t sl).length ≤ sl := by
  unfold pairs
  rw [List.length_map]
  exact Kd.refsTo_length _ _ _ _
section
variable {w : World}
set_option maxRecDepth 100000 in
set_option maxHeartbeats 4000000 in
theorem dtargets_any {A : Option Addr} {c : Nat} {ws : List Int} (hS : Seen w A ws) (t : Ty) (h : Hd) (g sl : Nat) (hm : t.ms < 18446744073709551616) (he : Kd.err t.k t.wd t.ms h.ln = 0) (hsl : Kd.slots t.k t.wd h.ln = (sl : Int)) (hr : 2 * g + 1 + sl ≤ ws.length) (hl : ws.length ≤ 65536) :
    Calls Tryd.prog 30 #[.slice A ws.length c, t.val, h.val, .int .i64 (g : Int)] w fun e w' => ∃ v, e = .returned v ∧ Ar.Own w' v (wordsOf (pairs ws g t sl)) ∧ Kept [] w w' := by
  have hR := fun y => Kd.refsDoc_ok t.k t.wd t.ms h.ln hm y
  unfold Kd.RefsPost Kd.refsR at hR
  simp only [he, hsl, if_true, Int.toNat_natCast] at hR
  have hlen0 := Kd.refsTo_length t.k t.wd t.ms sl
  have hmem : Hid (∀ r ∈ Kd.refsTo t.k t.wd t.ms sl, ∃ n : Nat, r = (n : Int) ∧ n < sl) := Lib.hid fun r hr => refsTo_mem hr
  have hpr : pairs ws g t sl = (Kd.refsTo t.k t.wd t.ms sl).map fun r => (r, ws.getD (2 * (g : Int) + 1 + r).toNat 0) := rfl
  rw [hpr]
  clear hpr he hsl
  generalize Kd.refsTo t.k t.wd t.ms sl = R at *
  have hstep : Hid (∀ j, j < R.length → wordsOf ((R.take (j + 1)).map fun r => (r, ws.getD (2 * (g : Int) + 1 + r).toNat 0)) = if ws.getD (2 * (g : Int) + 1 + R.getD j 0).toNat 0 = 0 then wordsOf ((R.take j).map fun r => (r, ws.getD (2 * (g : Int) + 1 + r).toNat 0)) else wordsOf ((R.take j).map fun r => (r, ws.getD (2 * (g : Int) + 1 + r).toNat 0)) ++ [ws.getD (2 * (g : Int) + 1 + R.getD j 0).toNat 0]) := Lib.hid fun j hj => by
    rw [List.take_succ_eq_append_getElem hj, List.map_append]
    have : R.getD j 0 = R[j] := by rw [List.getD_eq_getElem?_getD, List.getElem?_eq_getElem hj]; rfl
    rw [this]
    exact wordsOf_snoc _ _
  have hwl : Hid (∀ j, (wordsOf ((R.take j).map fun r => (r, ws.getD (2 * (g : Int) + 1 + r).toNat 0))).length ≤ 65536) := Lib.hid fun j => by
    refine Nat.le_trans (wordsOf_length _) ?_
    rw [List.length_map, List.length_take]
    omega
  have Hlen0 := Lib.hid hlen0
  have HR := Lib.hid hR
  have HSe := Lib.hid (hS.later)
  have hx0 : Kept [] w ((w.alloc (.cells #[.int .u8 (t.k : Int), .int .i64 t.wd, .int .u64 (t.ms : Int)] 55)).alloc (.cells #[.int .u8 h.tg, .int .i64 h.ty, .int .i64 h.ln, .int .i64 h.sz] 37)) := ((Kept.refl [] w).alloc _).alloc _
  have b0 : Has ((w.alloc (.cells #[.int .u8 (t.k : Int), .int .i64 t.wd, .int .u64 (t.ms : Int)] 55)).alloc (.cells #[.int .u8 h.tg, .int .i64 h.ty, .int .i64 h.ln, .int .i64 h.sz] 37)) w.heap.size 55 [.int .u8 (t.k : Int), .int .i64 t.wd, .int .u64 (t.ms : Int)] := (Has.new w 55 [.int .u8 (t.k : Int), .int .i64 t.wd, .int .u64 (t.ms : Int)]).alloc _
  have b1 : Has ((w.alloc (.cells #[.int .u8 (t.k : Int), .int .i64 t.wd, .int .u64 (t.ms : Int)] 55)).alloc (.cells #[.int .u8 h.tg, .int .i64 h.ty, .int .i64 h.ln, .int .i64 h.sz] 37)) (w.heap.size + 1) 37 [.int .u8 h.tg, .int .i64 h.ty, .int .i64 h.ln, .int .i64 h.sz] := by
    simpa using Has.new (w.alloc (.cells #[.int .u8 (t.k : Int), .int .i64 t.wd, .int .u64 (t.ms : Int)] 55)) 37 [.int .u8 h.tg, .int .i64 h.ty, .int .i64 h.ln, .int .i64 h.sz]
  have HX := Lib.hid hx0
  obtain ⟨c0, c1, c2⟩ := cells3 b0
  obtain ⟨d0, d1, d2, d3⟩ := cells4 b1
  unfold Kd.typV at HR
  unfold Ty.val Hd.val
  clear hS hR hlen0 hx0 b0 b1
  go_enter Tryd.func30, Tryd.ntmps30
  go_wp2_with fail
  refine (HR.out _).mono ?_
  rintro e x1 ⟨v1, rfl, hO, hK⟩
  have hform : ∃ A cap, v1 = .slice A R.length cap ∧ (R ≠ [] → ∃ rg, A = some ⟨rg, 0, none⟩ ∧ LayI x1 rg R) := by
    by_cases hR : R = []
    · rcases hO.form with ⟨h1, _⟩ | ⟨g', cap', h1, _⟩
      · exact ⟨none, 0, by rw [h1, hR]; rfl, fun h => absurd hR h⟩
      · exact ⟨_, _, h1, fun h => absurd hR h⟩
    · obtain ⟨rg, cap, h1, h2⟩ := layI_of_own hO hR
      exact ⟨_, _, h1, fun _ => ⟨rg, rfl, h2⟩⟩
  obtain ⟨B, cap, rfl, hB⟩ := hform
  have HB := Lib.hid hB
  have HK := Lib.hid (HX.out.trans hK)
  clear hO hB hK HX c0 c1 c2 d0 d1 d2 d3 HR
  obtain ⟨N, hN⟩ : ∃ N, N = R.length := ⟨_, rfl⟩
  rw [← hN] at hstep Hlen0 ⊢
  have HNR := Lib.hid hN
  have hNb : N ≤ 65536 := by have := Hlen0.out; omega
  clear hN
  have hall : Hid (wordsOf ((R.take N).map fun r => (r, ws.getD (2 * (g : Int) + 1 + r).toNat 0)) = wordsOf (R.map fun r => (r, ws.getD (2 * (g : Int) + 1 + r).toNat 0))) := Lib.hid (by rw [HNR.out, List.take_length])
  go_wp2_with fail
  go_loopw [11, 12] (fun s i wr => ∃ j : Nat, j ≤ N ∧ i = .int .i64 (j : Int) ∧ Hid (Ar.Own wr s (wordsOf ((R.take j).map fun r => (r, ws.getD (2 * (g : Int) + 1 + r).toNat 0))) ∧ FreshV x1 s ∧ Kept [] x1 wr)) (fun _ i _ => N - (intOf i).toNat)
  case atStart => exact ⟨0, Nat.zero_le _, rfl, Lib.hid ⟨Ar.Own.nil _, .inl rfl, Kept.refl _ _⟩⟩
  case round =>
    obtain ⟨j, hj, rfl, hr'⟩ := hrel
    by_cases hlt : j < N
    · have hne : R ≠ [] := fun e => by have h1 := HNR.out; rw [e] at h1; have h2 : N = 0 := h1; omega
      obtain ⟨rg, rfl, hlay⟩ := HB.out hne
      have hjR : j < R.length := by have := HNR.out; omega
      have hrm : R.getD j 0 ∈ R := by rw [List.getD_eq_getElem?_getD, List.getElem?_eq_getElem hjR]; exact List.getElem_mem hjR
      obtain ⟨rn, hrn, hrs⟩ := hmem.out _ hrm
      have hlay' : LayI wr rg R := by
        obtain ⟨rest, hh⟩ := hlay
        exact ⟨rest, hh.keep0 hr'.out.2.2⟩
      have e1 := hlay'.cell j hjR
      rw [hrn] at e1
      obtain ⟨b, f, rfl, hcell⟩ := HSe.out (fun e => by rw [e] at hr; have h2 : 2 * g + 1 + sl ≤ 0 := hr; omega)
      have e2 := hcell _ (HK.out.trans hr'.out.2.2) (2 * g + 1 + rn) (by omega)
      have hst := hstep.out j hlt
      rw [hrn, show (2 * (g : Int) + 1 + (rn : Int)).toNat = 2 * g + 1 + rn by omega] at hst
      have hidx : 2 * g + 1 + rn < ws.length := by omega
      have hwj := hwl.out j
      have HO := Lib.hid hr'.out.1
      have HV := Lib.hid hr'.out.2.1
      have HKw := Lib.hid hr'.out.2.2
      clear hlay hlay' hrm hrn hcell hr' hjR hne
      generalize ws.getD (2 * g + 1 + rn) 0 = u at *
      generalize wordsOf ((R.take j).map fun r => (r, ws.getD (2 * (g : Int) + 1 + r).toNat 0)) = L at *
      by_cases hz : u = 0
      · subst hz
        rw [if_pos rfl] at hst
        have HN : Hid (Ar.Own wr u11 (wordsOf ((R.take (j + 1)).map fun r => (r, ws.getD (2 * (g : Int) + 1 + r).toNat 0))) ∧ FreshV x1 u11 ∧ Kept [] x1 wr) := Lib.hid ⟨by rw [hst]; exact HO.out, HV.out, HKw.out⟩
        clear hst
        go_wp2_with fail
        go_roundw
        case rel => exact ⟨j + 1, by omega, by go_num, HN⟩
        case measure => simp [intOf]; omega
      · rw [if_neg hz] at hst
        have hzb : (u != 0) = true := by rw [bne_iff_ne]; exact hz
        have HSt := Lib.hid hst
        have HKa := Lib.hid ((Kept.refl [] wr).alloc (.cells #[.int .u64 u] 22))
        have HSn : Hid (Seen (wr.alloc (.cells #[.int .u64 u] 22)) (some ⟨wr.heap.size, 0, none⟩) [u]) := Row.seen (Has.new wr 22 (ints [u]))
        have HOa := Lib.hid (HO.out.keep0 HKa.out)
        clear hst
        go_wp2_with (at_builtin; (refine append_words rfl (.tmp 40) (.tmp 42) rfl u11 L rfl HOa.out (some ⟨wr.heap.size, 0, none⟩) 1 1 [u] rfl rfl (fun h => by cases h) HSn.out (by omega) ?_))
        intro s2 w2 hO2 hG2 hB2
        have hwk2 := HKw.out.trans HKa.out
        have hF2 := own_fresh (v' := s2) hwk2 HV.out (by rw [World.size_alloc]; exact hB2)
        have hK2 := own_grown hwk2 HV.out hG2
        have HN := Lib.hid (show Ar.Own w2 s2 (wordsOf ((R.take (j + 1)).map fun r => (r, ws.getD (2 * (g : Int) + 1 + r).toNat 0))) ∧ FreshV x1 s2 ∧ Kept [] x1 w2 from ⟨by rw [HSt.out]; exact hO2, hF2, hK2⟩)
        clear hO2 hG2 hB2 hK2 hF2 HKa HSn HO hwk2
        go_wp2_with fail
        go_roundw
        case rel => exact ⟨j + 1, by omega, by go_num, HN⟩
        case measure => simp [intOf]; omega
    · obtain rfl : j = N := by omega
      go_wp2_with fail
      go_ret
      exact ⟨_, rfl, by rw [← hall.out]; exact hr'.out.1, HK.out.trans hr'.out.2.2⟩
end
end Go.Proofs.YtpnjblledbihcaaDoor.Sh
