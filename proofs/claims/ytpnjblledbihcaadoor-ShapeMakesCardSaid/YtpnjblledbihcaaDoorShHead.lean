/-
  The header that stands at a granule: the contracts of Head and of the document's Head.
-/
import Derived.Test.YtpnjblledbihcaaDoorShOps
import Derived.Test.YtpnjblledbihcaaDoorGHd
import Derived.WalkSpells
namespace Go.Proofs.YtpnjblledbihcaaDoor.Sh
open Go.RowKit Go.Proofs.YtpnjblledbihcaaDoor.Ar
open Go.Proofs.YtpnjblledbihcaaDoor.Hd (Hd Fields decE decH decode_ok ddecode_ok free4 cells4 put4 ret_hd ret_hd0)
set_option linter.unusedVariables false

/-- All words are words. -/
def Wds (ws : List Int) : Prop := ∀ i, 0 ≤ ws.getD i 0 ∧ ws.getD i 0 ≤ 18446744073709551615
theorem wds_of {ws : List Int} (h : ∀ v ∈ ws, 0 ≤ v ∧ v < 18446744073709551616) : Wds ws := by
  intro i
  rw [List.getD_eq_getElem?_getD]
  cases hx : ws[i]? with
  | none => simp
  | some v =>
    have := h v (List.mem_of_getElem? hx)
    simp only [Option.getD_some]
    omega
/-- The word where a granule begins. -/
def atG (ws : List Int) (g : Int) : Int := ws.getD (2 * g).toNat 0
def hdE (ws : List Int) (g : Int) : Int := if inG ws.length g 1 then decE (atG ws g) else 2
def hdH (ws : List Int) (g : Int) : Hd := if inG ws.length g 1 then decH (atG ws g) else Hd.zero
theorem load_at {ws : List Int} {g : Int} (h : inG ws.length g 1 = true) : loadV ws (2 * g) = atG ws g ∧ Ar.within ws.length (2 * g) 1 = true := by
  obtain ⟨h0, h1⟩ := (inG_iff _ _ _).1 h
  have hw : Ar.within ws.length (2 * g) 1 = true := (Ar.within_iff _ _ _).2 ⟨by omega, by omega, by omega⟩
  exact ⟨by unfold loadV atG; rw [if_pos hw], hw⟩
section
variable {w : World}
set_option maxRecDepth 100000 in
set_option maxHeartbeats 1000000 in
theorem head_nil (g : Int) : Calls Tryd.prog 14 #[.pointer none, .int .i64 g] w fun e w' => e = .returned (.tuple #[Hd.zero.val, .int .i64 1]) ∧ Kept [] w w' := by
  have hb := Hd.Hd.new w Hd.zero
  have k0 : Kept [] w (w.alloc (.cells #[.int .u8 Hd.zero.tg, .int .i64 Hd.zero.ty, .int .i64 Hd.zero.ln, .int .i64 Hd.zero.sz] 37)) := (Kept.refl [] w).alloc _
  unfold Hd.val
  unfold Hd.zero at *
  simp only at hb k0
  have r2 := hb
  obtain ⟨f0, f1, f2, f3⟩ := free4 r2
  obtain ⟨d0, d1, d2, d3⟩ := cells4 r2
  have R2 := Lib.hid r2
  have K2 := Lib.hid k0
  clear r2 hb k0
  go_enter Tryd.func14, Tryd.ntmps14
  go_wp2_with fail
  exact ret_hd0 rfl rfl R2.out rfl rfl ⟨rfl, K2.out⟩
set_option maxRecDepth 100000 in
set_option maxHeartbeats 1000000 in
theorem head_any (hF : Fields w) {p q : Nat} {ws : List Int} {n : Int} (h : Arena w p q ws n) (hW : Wds ws) (g : Int) (g0 : -9223372036854775808 ≤ g) (g1 : g ≤ 9223372036854775807) :
    Calls Tryd.prog 14 #[.pointer (some ⟨p, 0, none⟩), .int .i64 g] w fun e w' => e = .returned (.tuple #[(hdH ws g).val, .int .i64 (hdE ws g)]) ∧ Kept [] w w' := by
  have hb := Hd.Hd.new w Hd.zero
  have k0 : Kept [] w (w.alloc (.cells #[.int .u8 Hd.zero.tg, .int .i64 Hd.zero.ty, .int .i64 Hd.zero.ln, .int .i64 Hd.zero.sz] 37)) := (Kept.refl [] w).alloc _
  have HI := Lib.hid (fun y (k : Kept [] w y) => within_ok (h.keep0 k) g 1 g1 (by omega) (by omega))
  unfold hdH hdE
  cases hc : inG ws.length g 1
  · simp only [hc, Bool.false_eq_true, if_false] at HI ⊢
    clear hc
    unfold Hd.val
    unfold Hd.zero at *
    simp only at hb k0
    have HB := Lib.hid hb
    have K0 := Lib.hid k0
    clear hb k0
    go_enter Tryd.func14, Tryd.ntmps14
    go_wp2_with fail
    refine (HI.out _ K0.out).mono ?_
    rintro e x1 ⟨rfl, rfl⟩
    obtain ⟨f0, f1, f2, f3⟩ := free4 HB.out
    obtain ⟨d0, d1, d2, d3⟩ := cells4 HB.out
    go_wp2_with fail
    exact ret_hd0 rfl rfl HB.out rfl rfl ⟨rfl, K0.out⟩
  · obtain ⟨i0, i1⟩ := (inG_iff _ _ _).1 hc
    have hs := h.short
    obtain ⟨e1, e2⟩ := load_at hc
    have HL := Lib.hid (fun y (k : Kept [] w y) => load_any (h.keep0 k) (2 * g) (by omega) (by omega))
    have HX := Lib.hid (fun (y : World) => first_ok (w := y) g (by omega) (by omega))
    have HD := Lib.hid (fun y (k : Kept [] w y) => decode_ok (hF.keep0 k) (atG ws g) (hW _).1 (hW _).2)
    rw [e1, e2] at HL
    simp only [hc, if_true] at HI ⊢
    clear hc e1 e2 h hF hW hs i0 i1
    generalize atG ws g = u at *
    generalize decH u = x at *
    generalize decE u = er at *
    unfold Hd.val at *
    generalize x.tg = xg at *
    generalize x.ty = xt at *
    generalize x.ln = xn at *
    generalize x.sz = xs at *
    unfold Hd.zero at *
    simp only at hb k0
    have HB := Lib.hid hb
    have K0 := Lib.hid k0
    clear hb k0
    rw [show errOf true = 0 from rfl] at HL
    go_enter Tryd.func14, Tryd.ntmps14
    go_wp2_with fail
    refine (HI.out _ K0.out).mono ?_
    rintro e x1 ⟨rfl, rfl⟩
    go_wp2_with fail
    refine (HX.out _).mono ?_
    rintro e x1 ⟨rfl, rfl⟩
    go_wp2_with fail
    refine (HL.out _ K0.out).mono ?_
    rintro e x1 ⟨rfl, rfl⟩
    go_wp2_with fail
    refine (HD.out _ K0.out).mono ?_
    rintro e x1 ⟨rfl, k1⟩
    have K1 := Lib.hid (K0.out.trans k1)
    have r1 := HB.out.keep0 k1
    obtain ⟨f0, f1, f2, f3⟩ := free4 r1
    obtain ⟨d0, d1, d2, d3⟩ := cells4 r1
    have R1 := Lib.hid r1
    clear r1 HB K0 k1
    go_wp2_with fail
    exact ret_hd rfl rfl R1.out K1.out (Nat.le_refl _) rfl rfl fun X hX => ⟨rfl, hX⟩
set_option maxRecDepth 100000 in
set_option maxHeartbeats 1000000 in
theorem dhead_any {A : Option Addr} {c : Nat} {ws : List Int} (hS : Seen w A ws) (hl : ws.length ≤ 1099511627776) (hW : Wds ws) (g : Int) :
    Calls Tryd.prog 24 #[.slice A ws.length c, .int .i64 g] w fun e w' => e = .returned (.tuple #[(hdH ws g).val, .int .i64 (hdE ws g)]) ∧ Kept [] w w' := by
  have hb := Hd.Hd.new w Hd.zero
  have k0 : Kept [] w (w.alloc (.cells #[.int .u8 Hd.zero.tg, .int .i64 Hd.zero.ty, .int .i64 Hd.zero.ln, .int .i64 Hd.zero.sz] 37)) := (Kept.refl [] w).alloc _
  unfold hdH hdE
  have ed : (ws.length : Int).tdiv 2 = (ws.length : Int) / 2 := Int.tdiv_eq_ediv_of_nonneg (by omega)
  cases hc : inG ws.length g 1
  · have hn : ¬ (0 ≤ g ∧ 1 ≤ (ws.length : Int) / 2 - g) := fun hh => by rw [(inG_iff _ _ _).2 hh] at hc; cases hc
    simp only [Bool.false_eq_true, if_false]
    clear hc hS hW
    generalize ws.length = L at *
    unfold Hd.val
    unfold Hd.zero at *
    simp only at hb k0
    have HB := Lib.hid hb
    have K0 := Lib.hid k0
    clear hb k0
    by_cases h0 : g < 0
    · clear hn
      go_enter Tryd.func24, Tryd.ntmps24
      obtain ⟨f0, f1, f2, f3⟩ := free4 HB.out
      obtain ⟨d0, d1, d2, d3⟩ := cells4 HB.out
      go_wp2_with fail
      exact ret_hd0 rfl rfl HB.out rfl rfl ⟨rfl, K0.out⟩
    · have h1 : (L : Int) / 2 ≤ g := by omega
      clear hn
      go_enter Tryd.func24, Tryd.ntmps24
      obtain ⟨f0, f1, f2, f3⟩ := free4 HB.out
      obtain ⟨d0, d1, d2, d3⟩ := cells4 HB.out
      go_wp2_with fail
      exact ret_hd0 rfl rfl HB.out rfl rfl ⟨rfl, K0.out⟩
  · obtain ⟨i0, i1⟩ := (inG_iff _ _ _).1 hc
    obtain ⟨m, rfl⟩ := Int.eq_ofNat_of_zero_le i0
    have hne : ws ≠ [] := by
      rintro rfl
      simp at i1
      omega
    obtain ⟨b, f, rfl, hcell⟩ := hS.later hne
    have c0 := hcell _ k0 (2 * m) (by omega)
    have e1 : atG ws (m : Int) = ws.getD (2 * m) 0 := by unfold atG; congr 1
    have HD := Lib.hid (fun (y : World) => ddecode_ok (w := y) (atG ws m) (hW _).1 (hW _).2)
    rw [← e1] at c0
    simp only [if_true]
    clear hc hS hW e1 hcell hne
    generalize atG ws m = u at *
    generalize decH u = x at *
    generalize decE u = er at *
    have h1 : ¬ (ws.length : Int) / 2 ≤ (m : Int) := by omega
    have h2 : 2 * m < ws.length := by omega
    generalize ws.length = L at *
    unfold Hd.val at *
    generalize x.tg = xg at *
    generalize x.ty = xt at *
    generalize x.ln = xn at *
    generalize x.sz = xs at *
    unfold Hd.zero at *
    simp only at hb k0
    simp only at c0
    have HB := Lib.hid hb
    have K0 := Lib.hid k0
    clear hb k0 i1
    go_enter Tryd.func24, Tryd.ntmps24
    go_wp2_with fail
    refine (HD.out _).mono ?_
    rintro e x1 ⟨rfl, k1⟩
    have K1 := Lib.hid (K0.out.trans k1)
    have r1 := HB.out.keep0 k1
    obtain ⟨f0, f1, f2, f3⟩ := free4 r1
    obtain ⟨d0, d1, d2, d3⟩ := cells4 r1
    have R1 := Lib.hid r1
    clear r1 HB K0 k1
    go_wp2_with fail
    exact ret_hd rfl rfl R1.out K1.out (Nat.le_refl _) rfl rfl fun X hX => ⟨rfl, hX⟩
end
end Go.Proofs.YtpnjblledbihcaaDoor.Sh
