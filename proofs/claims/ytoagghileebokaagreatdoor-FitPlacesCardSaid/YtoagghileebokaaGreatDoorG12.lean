/-
  Several texts in one: ShOps, ShHead, HdFitLaw, ShView.
-/
import Derived.Test.YtoagghileebokaaGreatDoorProg
import Derived.Test.YtoagghileebokaaGreatDoorG11
import Derived.WalkKit
import Derived.Test.YtoagghileebokaaGreatDoorG05
import Derived.WalkSpells
import Derived.Test.YtoagghileebokaaGreatDoorG10
import Derived.Test.YtoagghileebokaaGreatDoorG31
/-
  Addresses and granules: the contracts of Addr, Word, first, within, and of the document's Addr and Word.
-/
namespace Go.Proofs.YtoagghileebokaaGreatDoor.Sh
open Go.RowKit Go.Proofs.YtoagghileebokaaGreatDoor.Ar
set_option linter.unusedVariables false

def addrR (g : Int) : Int := if g < 0 then 0 else 1048576 + 2 * g
section
variable {w : World}
theorem daddr_ok (g : Int) (hg : g ≤ 1099511627776) : Calls Tryz.prog 116 #[.int .i64 g] w fun e w' => e = .returned (.int .u64 (addrR g)) ∧ w = w' := by
  unfold addrR
  by_cases h : g < 0
  · rw [if_pos h]
    go_enter Tryz.func116, Tryz.ntmps116
    go_wp2
    go_ret
    exact ⟨rfl, rfl⟩
  · rw [if_neg h]
    obtain ⟨n, rfl⟩ := Int.eq_ofNat_of_zero_le (Int.not_lt.1 h)
    go_enter Tryz.func116, Tryz.ntmps116
    go_wp2
    go_ret
    exact ⟨ret_int (by omega), rfl⟩
theorem first_ok (g : Int) (h0 : -4611686018427387904 ≤ g) (h1 : g ≤ 4611686018427387903) : Calls Tryz.prog 89 #[.int .i64 g] w fun e w' => e = .returned (.int .i64 (2 * g)) ∧ w = w' := by
  go_enter Tryz.func89, Tryz.ntmps89
  go_wp2
  go_ret
  exact ⟨ret_int (by omega), rfl⟩
/-- So many granules, from the granule g on, are in an arena of L words. -/
def inG (L : Nat) (g z : Int) : Bool := decide (0 ≤ g ∧ z ≤ (L : Int) / 2 - g)
theorem inG_iff (L : Nat) (g z : Int) : inG L g z = true ↔ 0 ≤ g ∧ z ≤ (L : Int) / 2 - g := by unfold inG; exact decide_eq_true_iff
variable {p q : Nat} {ws : List Int} {n : Int}
set_option maxRecDepth 100000 in
theorem within_ok (h : Arena w p q ws n) (g z : Int) (g1 : g ≤ 9223372036854775807) (z0 : -9223372036854775808 ≤ z) (z1 : z ≤ 9223372036854775807) :
    Calls Tryz.prog 87 #[.pointer (some ⟨p, 0, none⟩), .int .i64 g, .int .i64 z] w fun e w' => e = .returned (.bool (inG ws.length g z)) ∧ w = w' := by
  have HL0 := Lib.hid (len_any h)
  have hs := h.short
  unfold inG
  clear h
  generalize ws.length = L at *
  by_cases h0 : g < 0
  · rw [decide_eq_false (by omega)]
    go_enter Tryz.func87, Tryz.ntmps87
    go_wp2_with fail
    go_ret
    exact ⟨rfl, rfl⟩
  · have h0' : 0 ≤ g := by omega
    have ed : (L : Int).tdiv 2 = (L : Int) / 2 := Int.tdiv_eq_ediv_of_nonneg (by omega)
    by_cases h1 : z ≤ (L : Int) / 2 - g
    · rw [decide_eq_true ⟨h0', h1⟩]
      go_enter Tryz.func87, Tryz.ntmps87
      go_wp2_with fail
      refine HL0.out.mono ?_
      rintro e w1 ⟨rfl, rfl⟩
      go_wp2_with fail
      go_ret
      exact ⟨rfl, rfl⟩
    · rw [decide_eq_false (by omega)]
      go_enter Tryz.func87, Tryz.ntmps87
      go_wp2_with fail
      refine HL0.out.mono ?_
      rintro e w1 ⟨rfl, rfl⟩
      go_wp2_with fail
      go_ret
      exact ⟨ret_bool (decide_eq_false (by omega)), rfl⟩
end
end Go.Proofs.YtoagghileebokaaGreatDoor.Sh

/-
  The header that stands at a granule: the contracts of Head and of the document's Head.
-/
namespace Go.Proofs.YtoagghileebokaaGreatDoor.Sh
open Go.RowKit Go.Proofs.YtoagghileebokaaGreatDoor.Ar
open Go.Proofs.YtoagghileebokaaGreatDoor.Hd (Hd Fields decE decH decode_ok ddecode_ok free4 cells4 put4 ret_hd ret_hd0 isHead headI head_ok)
set_option linter.unusedVariables false

/-- All words are words. -/
def Wds (ws : List Int) : Prop := ∀ i, 0 ≤ ws.getD i 0 ∧ ws.getD i 0 ≤ 18446744073709551615
theorem wds_of {ws : List Int} (h : ∀ v ∈ ws, 0 ≤ v ∧ v < 18446744073709551616) : Wds ws := by
  intro i
  rw [List.getD_eq_getElem?_getD]
  cases hx : ws[i]? with
  | none => simp
  | some v =>
    have := h v (List.mem_of_getElem? hx)
    simp only [Option.getD_some]
    omega
/-- The word where a granule begins. -/
def atG (ws : List Int) (g : Int) : Int := ws.getD (2 * g).toNat 0
def hdE (ws : List Int) (g : Int) : Int := if inG ws.length g 1 then decE (atG ws g) else 2
def hdH (ws : List Int) (g : Int) : Hd := if inG ws.length g 1 then decH (atG ws g) else Hd.zero
theorem load_at {ws : List Int} {g : Int} (h : inG ws.length g 1 = true) : loadV ws (2 * g) = atG ws g ∧ Ar.within ws.length (2 * g) 1 = true := by
  obtain ⟨h0, h1⟩ := (inG_iff _ _ _).1 h
  have hw : Ar.within ws.length (2 * g) 1 = true := (Ar.within_iff _ _ _).2 ⟨by omega, by omega, by omega⟩
  exact ⟨by unfold loadV atG; rw [if_pos hw], hw⟩
theorem hdH_ok {ws : List Int} {g : Int} (hW : Wds ws) : (hdH ws g).ok := by
  unfold hdH decH
  cases inG ws.length g 1
  · exact Hd.Hd.zero_ok
  · cases isHead (atG ws g)
    · exact Hd.Hd.zero_ok
    · exact head_ok (hW _).1 (hW _).2
section
variable {w : World}
set_option maxRecDepth 100000 in
set_option maxHeartbeats 1000000 in
theorem head_nil (g : Int) : Calls Tryz.prog 91 #[.pointer none, .int .i64 g] w fun e w' => e = .returned (.tuple #[Hd.zero.val, .int .i64 1]) ∧ Kept [] w w' := by
  have hb := Hd.Hd.new w Hd.zero
  have k0 : Kept [] w (w.alloc (.cells #[.int .u8 Hd.zero.tg, .int .i64 Hd.zero.ty, .int .i64 Hd.zero.ln, .int .i64 Hd.zero.sz] 49)) := (Kept.refl [] w).alloc _
  unfold Hd.val
  unfold Hd.zero at *
  simp only at hb k0
  have r2 := hb
  obtain ⟨f0, f1, f2, f3⟩ := free4 r2
  obtain ⟨d0, d1, d2, d3⟩ := cells4 r2
  have R2 := Lib.hid r2
  have K2 := Lib.hid k0
  clear r2 hb k0
  go_enter Tryz.func91, Tryz.ntmps91
  go_wp2_with fail
  exact ret_hd0 rfl rfl R2.out rfl rfl ⟨rfl, K2.out⟩
set_option maxRecDepth 100000 in
set_option maxHeartbeats 1000000 in
theorem head_any (hF : Fields w) {p q : Nat} {ws : List Int} {n : Int} (h : Arena w p q ws n) (hW : Wds ws) (g : Int) (g0 : -9223372036854775808 ≤ g) (g1 : g ≤ 9223372036854775807) :
    Calls Tryz.prog 91 #[.pointer (some ⟨p, 0, none⟩), .int .i64 g] w fun e w' => e = .returned (.tuple #[(hdH ws g).val, .int .i64 (hdE ws g)]) ∧ Kept [] w w' := by
  have hb := Hd.Hd.new w Hd.zero
  have k0 : Kept [] w (w.alloc (.cells #[.int .u8 Hd.zero.tg, .int .i64 Hd.zero.ty, .int .i64 Hd.zero.ln, .int .i64 Hd.zero.sz] 49)) := (Kept.refl [] w).alloc _
  have HI := Lib.hid (fun y (k : Kept [] w y) => within_ok (h.keep0 k) g 1 g1 (by omega) (by omega))
  unfold hdH hdE
  cases hc : inG ws.length g 1
  · simp only [hc, Bool.false_eq_true, if_false] at HI ⊢
    clear hc
    unfold Hd.val
    unfold Hd.zero at *
    simp only at hb k0
    have HB := Lib.hid hb
    have K0 := Lib.hid k0
    clear hb k0
    go_enter Tryz.func91, Tryz.ntmps91
    go_wp2_with fail
    refine (HI.out _ K0.out).mono ?_
    rintro e x1 ⟨rfl, rfl⟩
    obtain ⟨f0, f1, f2, f3⟩ := free4 HB.out
    obtain ⟨d0, d1, d2, d3⟩ := cells4 HB.out
    go_wp2_with fail
    exact ret_hd0 rfl rfl HB.out rfl rfl ⟨rfl, K0.out⟩
  · obtain ⟨i0, i1⟩ := (inG_iff _ _ _).1 hc
    have hs := h.short
    obtain ⟨e1, e2⟩ := load_at hc
    have HL := Lib.hid (fun y (k : Kept [] w y) => load_any (h.keep0 k) (2 * g) (by omega) (by omega))
    have HX := Lib.hid (fun (y : World) => first_ok (w := y) g (by omega) (by omega))
    have HD := Lib.hid (fun y (k : Kept [] w y) => decode_ok (hF.keep0 k) (atG ws g) (hW _).1 (hW _).2)
    rw [e1, e2] at HL
    simp only [hc, if_true] at HI ⊢
    clear hc e1 e2 h hF hW hs i0 i1
    generalize atG ws g = u at *
    generalize decH u = x at *
    generalize decE u = er at *
    unfold Hd.val at *
    generalize x.tg = xg at *
    generalize x.ty = xt at *
    generalize x.ln = xn at *
    generalize x.sz = xs at *
    unfold Hd.zero at *
    simp only at hb k0
    have HB := Lib.hid hb
    have K0 := Lib.hid k0
    clear hb k0
    rw [show errOf true = 0 from rfl] at HL
    go_enter Tryz.func91, Tryz.ntmps91
    go_wp2_with fail
    refine (HI.out _ K0.out).mono ?_
    rintro e x1 ⟨rfl, rfl⟩
    go_wp2_with fail
    refine (HX.out _).mono ?_
    rintro e x1 ⟨rfl, rfl⟩
    go_wp2_with fail
    refine (HL.out _ K0.out).mono ?_
    rintro e x1 ⟨rfl, rfl⟩
    go_wp2_with fail
    refine (HD.out _ K0.out).mono ?_
    rintro e x1 ⟨rfl, k1⟩
    have K1 := Lib.hid (K0.out.trans k1)
    have r1 := HB.out.keep0 k1
    obtain ⟨f0, f1, f2, f3⟩ := free4 r1
    obtain ⟨d0, d1, d2, d3⟩ := cells4 r1
    have R1 := Lib.hid r1
    clear r1 HB K0 k1
    go_wp2_with fail
    exact ret_hd rfl rfl R1.out K1.out (Nat.le_refl _) rfl rfl fun X hX => ⟨rfl, hX⟩
set_option maxRecDepth 100000 in
set_option maxHeartbeats 1000000 in
theorem dhead_any {A : Option Addr} {c : Nat} {ws : List Int} (hS : Seen w A ws) (hl : ws.length ≤ 1099511627776) (hW : Wds ws) (g : Int) :
    Calls Tryz.prog 140 #[.slice A ws.length c, .int .i64 g] w fun e w' => e = .returned (.tuple #[(hdH ws g).val, .int .i64 (hdE ws g)]) ∧ Kept [] w w' := by
  have hb := Hd.Hd.new w Hd.zero
  have k0 : Kept [] w (w.alloc (.cells #[.int .u8 Hd.zero.tg, .int .i64 Hd.zero.ty, .int .i64 Hd.zero.ln, .int .i64 Hd.zero.sz] 49)) := (Kept.refl [] w).alloc _
  unfold hdH hdE
  have ed : (ws.length : Int).tdiv 2 = (ws.length : Int) / 2 := Int.tdiv_eq_ediv_of_nonneg (by omega)
  cases hc : inG ws.length g 1
  · have hn : ¬ (0 ≤ g ∧ 1 ≤ (ws.length : Int) / 2 - g) := fun hh => by rw [(inG_iff _ _ _).2 hh] at hc; cases hc
    simp only [Bool.false_eq_true, if_false]
    clear hc hS hW
    generalize ws.length = L at *
    unfold Hd.val
    unfold Hd.zero at *
    simp only at hb k0
    have HB := Lib.hid hb
    have K0 := Lib.hid k0
    clear hb k0
    by_cases h0 : g < 0
    · clear hn
      go_enter Tryz.func140, Tryz.ntmps140
      obtain ⟨f0, f1, f2, f3⟩ := free4 HB.out
      obtain ⟨d0, d1, d2, d3⟩ := cells4 HB.out
      go_wp2_with fail
      exact ret_hd0 rfl rfl HB.out rfl rfl ⟨rfl, K0.out⟩
    · have h1 : (L : Int) / 2 ≤ g := by omega
      clear hn
      go_enter Tryz.func140, Tryz.ntmps140
      obtain ⟨f0, f1, f2, f3⟩ := free4 HB.out
      obtain ⟨d0, d1, d2, d3⟩ := cells4 HB.out
      go_wp2_with fail
      exact ret_hd0 rfl rfl HB.out rfl rfl ⟨rfl, K0.out⟩
  · obtain ⟨i0, i1⟩ := (inG_iff _ _ _).1 hc
    obtain ⟨m, rfl⟩ := Int.eq_ofNat_of_zero_le i0
    have hne : ws ≠ [] := by
      rintro rfl
      simp at i1
      omega
    obtain ⟨b, f, rfl, hcell⟩ := hS.later hne
    have c0 := hcell _ k0 (2 * m) (by omega)
    have e1 : atG ws (m : Int) = ws.getD (2 * m) 0 := by unfold atG; congr 1
    have HD := Lib.hid (fun (y : World) => ddecode_ok (w := y) (atG ws m) (hW _).1 (hW _).2)
    rw [← e1] at c0
    simp only [if_true]
    clear hc hS hW e1 hcell hne
    generalize atG ws m = u at *
    generalize decH u = x at *
    generalize decE u = er at *
    have h1 : ¬ (ws.length : Int) / 2 ≤ (m : Int) := by omega
    have h2 : 2 * m < ws.length := by omega
    generalize ws.length = L at *
    unfold Hd.val at *
    generalize x.tg = xg at *
    generalize x.ty = xt at *
    generalize x.ln = xn at *
    generalize x.sz = xs at *
    unfold Hd.zero at *
    simp only at hb k0
    simp only at c0
    have HB := Lib.hid hb
    have K0 := Lib.hid k0
    clear hb k0 i1
    go_enter Tryz.func140, Tryz.ntmps140
    go_wp2_with fail
    refine (HD.out _).mono ?_
    rintro e x1 ⟨rfl, k1⟩
    have K1 := Lib.hid (K0.out.trans k1)
    have r1 := HB.out.keep0 k1
    obtain ⟨f0, f1, f2, f3⟩ := free4 r1
    obtain ⟨d0, d1, d2, d3⟩ := cells4 r1
    have R1 := Lib.hid r1
    clear r1 HB K0 k1
    go_wp2_with fail
    exact ret_hd rfl rfl R1.out K1.out (Nat.le_refl _) rfl rfl fun X hX => ⟨rfl, hX⟩
end
end Go.Proofs.YtoagghileebokaaGreatDoor.Sh

/-
  What the law HeadFits says, in numbers.
-/
namespace Go.Proofs.YtoagghileebokaaGreatDoor.Hd
open Go.RowKit Go.Proofs.YtoagghileebokaaGreatDoor.Ar
set_option linter.unusedVariables false
open Go.Proofs.YtoagghileebokaaGreatDoor.Tb (Ty Tab Seen Made NewPost RowPost newF newF_len addE sizeT sizeE hasT getT)

/-- An object that is possible: its header is valid, and what it is. -/
theorem of_facts {l : List Ty} {i n : Int} (h : sizeE l i n = 0) (hl : l.length ≤ 64) : ∃ sz, ofL l i n = ⟨1, i, n, sz⟩ ∧ 1 ≤ sz ∧ sz ≤ 40000 ∧ 1 ≤ i ∧ i ≤ 64 ∧ 0 ≤ n ∧ n ≤ 4096 := by
  unfold ofL ofH
  rw [if_pos h]
  unfold sizeT
  unfold sizeE at h
  have hh : hasT l i = true := by
    cases hx : hasT l i with
    | true => rfl
    | false => rw [hx, if_neg (by decide)] at h; exact absurd h (by decide)
  rw [hh] at h ⊢
  simp only [if_true] at h ⊢
  have hi := of_decide_eq_true hh
  refine ⟨_, rfl, ?_⟩
  obtain ⟨b0, b1⟩ := Kd.slots_bound h
  have hn : 0 ≤ n ∧ n ≤ 4096 := by
    unfold Kd.err at h
    split at h
    · cases h
    · split at h
      · cases h
      · omega
  unfold Kd.sizeR
  rw [if_pos h]
  omega
theorem fit_of {l : List Ty} {i n sz : Int} (ho : ofL l i n = ⟨1, i, n, sz⟩) (he : sizeE l i n = 0) (c : (Hd.mk 1 i n sz).can) : fitL l ⟨1, i, n, sz⟩ = 0 := by
  unfold fitL fitE
  simp only
  rw [if_neg (fun h => h c), if_neg (by simp), ho, he, if_neg (by simp)]
theorem can_obj {i n z : Int} (h0 : 1 ≤ i) (h1 : i ≤ 4095) (h2 : 0 ≤ n) (h3 : n ≤ 16777215) (h4 : 1 ≤ z) (h5 : z ≤ 16777215) : (Hd.mk 1 i n z).can := ⟨⟨h4, h5, h2, h3⟩, .inl ⟨rfl, h0, h1⟩⟩
end Go.Proofs.YtoagghileebokaaGreatDoor.Hd

/-
  A view in memory; plain functions: what Of answers.
-/
namespace Go.Proofs.YtoagghileebokaaGreatDoor.Sh
open Go.RowKit Go.Proofs.YtoagghileebokaaGreatDoor.Ar
open Go.Proofs.YtoagghileebokaaGreatDoor.Hd (Hd Fields decE decH isHead headI head_ok fitL ofL)
open Go.Proofs.YtoagghileebokaaGreatDoor.Tb (Ty Tab getT hasT sizeE sizeT)
set_option linter.unusedVariables false

/-- A view of the object at the granule g: its block, the arena's block, header, type, number of slots. -/
structure View (w : World) (v p : Nat) (g : Int) (h : Hd) (t : Ty) (sl : Int) : Prop where
  row : Has w v 187 [.pointer (some ⟨p, 0, none⟩), .int .i64 g, .int .u8 h.tg, .int .i64 h.ty, .int .i64 h.ln, .int .i64 h.sz, .int .u8 (t.k : Int), .int .i64 t.wd, .int .u64 (t.ms : Int), .int .i64 sl]
namespace View
variable {w w' : World} {v p : Nat} {g : Int} {h : Hd} {t : Ty} {sl : Int}
theorem kept {S : List Nat} (H : View w v p g h t sl) (k : Kept S w w') (hv : v ∉ S) : View w' v p g h t sl := ⟨H.row.kept k hv⟩
theorem keep0 (H : View w v p g h t sl) (k : Kept [] w w') : View w' v p g h t sl := H.kept k (by simp)
theorem drewN (H : View w v p g h t sl) (n : Nat) : View (w.drewN n) v p g h t sl := ⟨H.row⟩
theorem cells (H : View w v p g h t sl) : w.cell? ⟨v, 0, none⟩ = some (.pointer (some ⟨p, 0, none⟩)) ∧ w.cell? ⟨v, 1, none⟩ = some (.int .i64 g) ∧ w.cell? ⟨v, 2, none⟩ = some (.int .u8 h.tg) ∧ w.cell? ⟨v, 3, none⟩ = some (.int .i64 h.ty) ∧ w.cell? ⟨v, 4, none⟩ = some (.int .i64 h.ln) ∧ w.cell? ⟨v, 5, none⟩ = some (.int .i64 h.sz)
    ∧ w.cell? ⟨v, 6, none⟩ = some (.int .u8 (t.k : Int)) ∧ w.cell? ⟨v, 7, none⟩ = some (.int .i64 t.wd) ∧ w.cell? ⟨v, 8, none⟩ = some (.int .u64 (t.ms : Int)) ∧ w.cell? ⟨v, 9, none⟩ = some (.int .i64 sl) :=
  ⟨H.row.cell 0, H.row.cell 1, H.row.cell 2, H.row.cell 3, H.row.cell 4, H.row.cell 5, H.row.cell 6, H.row.cell 7, H.row.cell 8, H.row.cell 9⟩
end View
/-- The error of Of. -/
def ofE (ws : List Int) (l : List Ty) (g : Int) : Int :=
  if hdE ws g ≠ 0 then hdE ws g else if (hdH ws g).tg ≠ 1 ∨ fitL l (hdH ws g) ≠ 0 ∨ inG ws.length g (hdH ws g).sz = false then 8 else 0
def ofT (ws : List Int) (l : List Ty) (g : Int) : Ty := getT l (hdH ws g).ty
def ofS (ws : List Int) (l : List Ty) (g : Int) : Int := Kd.slotsR (ofT ws l g).k (ofT ws l g).wd (ofT ws l g).ms (hdH ws g).ln
/-- What stands there, if Of answers a view. -/
structure Stand (ws : List Int) (l : List Ty) (g : Int) : Prop where
  he : hdE ws g = 0
  tag : (hdH ws g).tg = 1
  fit : fitL l (hdH ws g) = 0
  isin : inG ws.length g (hdH ws g).sz = true
theorem stand_of {ws : List Int} {l : List Ty} {g : Int} (h : ofE ws l g = 0) : Stand ws l g := by
  unfold ofE at h
  by_cases c : hdE ws g = 0
  · rw [if_neg (by simpa using c)] at h
    by_cases d : (hdH ws g).tg ≠ 1 ∨ fitL l (hdH ws g) ≠ 0 ∨ inG ws.length g (hdH ws g).sz = false
    · rw [if_pos d] at h; cases h
    · refine ⟨c, ?_, ?_, ?_⟩
      · exact Classical.byContradiction fun e => d (.inl e)
      · exact Classical.byContradiction fun e => d (.inr (.inl e))
      · cases e : inG ws.length g (hdH ws g).sz with
        | true => rfl
        | false => exact absurd (.inr (.inr e)) d
  · rw [if_pos c] at h
    exact absurd h c
end Go.Proofs.YtoagghileebokaaGreatDoor.Sh
