/-
  Several texts in one: WkSame, WkAlive.
-/
import Derived.Test.YtagmmbkgjomdlaaGreatDoorG01
import Derived.Test.YtagmmbkgjomdlaaGreatDoorG29
import Derived.Test.YtagmmbkgjomdlaaGreatDoorG19
import Derived.Test.YtagmmbkgjomdlaaGreatDoorG43
import Derived.Test.YtagmmbkgjomdlaaGreatDoorG46
import Derived.Test.YtagmmbkgjomdlaaGreatDoorG45
import Derived.Test.YtagmmbkgjomdlaaGreatDoorG44
/-
  The document's SameFaults, SameRuns, SameEdges: of two rows that are alike.
-/
namespace Go.Proofs.YtagmmbkgjomdlaaGreatDoor.Wk
open Go.RowKit Go.Proofs.YtagmmbkgjomdlaaGreatDoor.Ar
open Go.Proofs.YtagmmbkgjomdlaaGreatDoor.Hd (eqF_int)
set_option linter.unusedVariables false

def eqRn (a0 a1 b0 b1 : Int) : Bool := (a0 == b0) && (a1 == b1)
theorem eqInRn (y : World) (a0 a1 b0 b1 : Int) : (Op.equalIn 10000 92 (.agg #[.int .i64 a0, .int .i64 a1]) (.agg #[.int .i64 b0, .int .i64 b1])).run Tryz.prog y = .ok (eqRn a0 a1 b0 b1) y := by
  have e3 := Tryz.underlying3

  have hf : (Tryz.prog.fieldsOf 92).toList = [(Field.mk "At" 3 0 false "" "" 0), (Field.mk "Len" 3 1 false "" "" 8)] := by kernel_rfl
  rw [run_equalIn_struct (d := 9999) (ht := by kernel_rfl) (hp := by kernel_rfl), hf]
  rw [eqF_int (d := 9998) (f := (Field.mk "At" 3 0 false "" "" 0)) e3 (by decide) (a := a0) (b := b0) rfl rfl, eqF_int (d := 9998) (f := (Field.mk "Len" 3 1 false "" "" 8)) e3 (by decide) (a := a1) (b := b1) rfl rfl]
  rw [Op.eqFields]
  unfold eqRn
  cases a0 == b0 <;> cases a1 == b1 <;> rfl
theorem otherRn (y : World) (a0 a1 b0 b1 : Int) : (binOp .neq 92 (.agg #[.int .i64 a0, .int .i64 a1]) (.agg #[.int .i64 b0, .int .i64 b1])).run Tryz.prog y = .ok (.bool (!eqRn a0 a1 b0 b1)) y := by
  rw [run_neq_struct, eqInRn]
  rfl
theorem guardRn : Tryz.prog.eqGuardType Tryz.prog.depth 92 = false := by kernel_rfl
set_option maxRecDepth 100000 in
set_option maxHeartbeats 1000000 in
theorem sameRn_ok {w : World} {A B : Option Addr} {cap cap2 : Nat} (L : List (Int × Int)) (hA : Seen Rn w A L) (hB : Seen Rn w B L) (hlen : L.length ≤ 1000000) :
    Calls Tryz.prog 14 #[.slice A L.length cap, .slice B L.length cap2] w fun e w' => e = .returned (.bool true) ∧ Kept [] w w' := by
  have HA := Lib.hid hA
  have HB := Lib.hid hB
  have K0 : Hid (Kept [] w w) := Lib.hid (Kept.refl _ _)
  clear hA hB
  go_enter Tryz.func14, Tryz.ntmps14
  go_wp2_with fail
  go_loopw [5] (fun t wr => ∃ j : Nat, t = .int .i64 (j : Int) ∧ j ≤ L.length ∧ Hid (Kept [] w wr)) (fun t _ => L.length - (intOf t).toNat)
  case atStart => exact ⟨0, rfl, Nat.zero_le _, K0⟩
  case round =>
    obtain ⟨j, rfl, hj, hr⟩ := hrel
    clear K0
    by_cases hlt : j < L.length
    · obtain ⟨x, hx⟩ : ∃ x, L[j]? = some x := ⟨_, List.getElem?_eq_getElem hlt⟩
      obtain ⟨Gc, oc, rfl, _, c0, c1⟩ := seen_duet (K := Rn) (HA.out.keep0 hr.out) hx rfl
      obtain ⟨Gd, od, rfl, _, d0, d1⟩ := seen_duet (K := Rn) (HB.out.keep0 hr.out) hx rfl
      have c0' : wr.cell? ⟨Gc, oc + j * 2, none⟩ = some (.int .i64 x.1) := c0
      have c1' : wr.cell? ⟨Gc, oc + j * 2 + 1, none⟩ = some (.int .i64 x.2) := c1
      have d0' : wr.cell? ⟨Gd, od + j * 2, none⟩ = some (.int .i64 x.1) := d0
      have d1' : wr.cell? ⟨Gd, od + j * 2 + 1, none⟩ = some (.int .i64 x.2) := d1
      clear c0 d0 c1 d1 hx
      have c0 := c0'
      have d0 := d0'
      have c1 := c1'
      have d1 := d1'
      clear c0' d0' c1' d1'
      obtain ⟨xa, xb⟩ := x
      simp only at *
      have hso := fun y => otherRn y xa xb xa xb
      have hng := guardRn
      have hq : eqRn xa xb xa xb = true := by simp [eqRn]
      go_wp2_with fail
      go_quiet (fail)
      have HK := Lib.hid (hr.out.drewN nq)
      clear hr c0 d0 c1 d1 hso hng hq
      go_wp2_with fail
      go_roundw
      case rel => exact ⟨j + 1, by go_num, by omega, HK⟩
      case measure => simp [intOf] <;> omega
    · obtain rfl : j = L.length := by omega
      go_wp2_with fail
      go_ret
      exact ⟨rfl, hr.out⟩
def eqEdg (a0 a1 a2 b0 b1 b2 : Int) : Bool := (a0 == b0) && (a1 == b1) && (a2 == b2)
theorem eqInEdg (y : World) (a0 a1 a2 b0 b1 b2 : Int) : (Op.equalIn 10000 90 (.agg #[.int .i64 a0, .int .i64 a1, .int .i64 a2]) (.agg #[.int .i64 b0, .int .i64 b1, .int .i64 b2])).run Tryz.prog y = .ok (eqEdg a0 a1 a2 b0 b1 b2) y := by
  have e3 := Tryz.underlying3

  have hf : (Tryz.prog.fieldsOf 90).toList = [(Field.mk "From" 3 0 false "" "" 0), (Field.mk "Slot" 3 1 false "" "" 8), (Field.mk "To" 3 2 false "" "" 16)] := by kernel_rfl
  rw [run_equalIn_struct (d := 9999) (ht := by kernel_rfl) (hp := by kernel_rfl), hf]
  rw [eqF_int (d := 9998) (f := (Field.mk "From" 3 0 false "" "" 0)) e3 (by decide) (a := a0) (b := b0) rfl rfl, eqF_int (d := 9998) (f := (Field.mk "Slot" 3 1 false "" "" 8)) e3 (by decide) (a := a1) (b := b1) rfl rfl, eqF_int (d := 9998) (f := (Field.mk "To" 3 2 false "" "" 16)) e3 (by decide) (a := a2) (b := b2) rfl rfl]
  rw [Op.eqFields]
  unfold eqEdg
  cases a0 == b0 <;> cases a1 == b1 <;> cases a2 == b2 <;> rfl
theorem otherEdg (y : World) (a0 a1 a2 b0 b1 b2 : Int) : (binOp .neq 90 (.agg #[.int .i64 a0, .int .i64 a1, .int .i64 a2]) (.agg #[.int .i64 b0, .int .i64 b1, .int .i64 b2])).run Tryz.prog y = .ok (.bool (!eqEdg a0 a1 a2 b0 b1 b2)) y := by
  rw [run_neq_struct, eqInEdg]
  rfl
theorem guardEdg : Tryz.prog.eqGuardType Tryz.prog.depth 90 = false := by kernel_rfl
set_option maxRecDepth 100000 in
set_option maxHeartbeats 1000000 in
theorem sameEdg_ok {w : World} {A B : Option Addr} {cap cap2 : Nat} (L : List (Tri)) (hA : Seen Edg w A L) (hB : Seen Edg w B L) (hlen : L.length ≤ 1000000) :
    Calls Tryz.prog 17 #[.slice A L.length cap, .slice B L.length cap2] w fun e w' => e = .returned (.bool true) ∧ Kept [] w w' := by
  have HA := Lib.hid hA
  have HB := Lib.hid hB
  have K0 : Hid (Kept [] w w) := Lib.hid (Kept.refl _ _)
  clear hA hB
  go_enter Tryz.func17, Tryz.ntmps17
  go_wp2_with fail
  go_loopw [5] (fun t wr => ∃ j : Nat, t = .int .i64 (j : Int) ∧ j ≤ L.length ∧ Hid (Kept [] w wr)) (fun t _ => L.length - (intOf t).toNat)
  case atStart => exact ⟨0, rfl, Nat.zero_le _, K0⟩
  case round =>
    obtain ⟨j, rfl, hj, hr⟩ := hrel
    clear K0
    by_cases hlt : j < L.length
    · obtain ⟨x, hx⟩ : ∃ x, L[j]? = some x := ⟨_, List.getElem?_eq_getElem hlt⟩
      obtain ⟨Gc, oc, rfl, _, c0, c1, c2⟩ := seen_tri (K := Edg) (HA.out.keep0 hr.out) hx rfl
      obtain ⟨Gd, od, rfl, _, d0, d1, d2⟩ := seen_tri (K := Edg) (HB.out.keep0 hr.out) hx rfl
      have c0' : wr.cell? ⟨Gc, oc + j * 3, none⟩ = some (.int .i64 x.a) := c0
      have c1' : wr.cell? ⟨Gc, oc + j * 3 + 1, none⟩ = some (.int .i64 x.b) := c1
      have c2' : wr.cell? ⟨Gc, oc + j * 3 + 2, none⟩ = some (.int .i64 x.c) := c2
      have d0' : wr.cell? ⟨Gd, od + j * 3, none⟩ = some (.int .i64 x.a) := d0
      have d1' : wr.cell? ⟨Gd, od + j * 3 + 1, none⟩ = some (.int .i64 x.b) := d1
      have d2' : wr.cell? ⟨Gd, od + j * 3 + 2, none⟩ = some (.int .i64 x.c) := d2
      clear c0 d0 c1 d1 c2 d2 hx
      have c0 := c0'
      have d0 := d0'
      have c1 := c1'
      have d1 := d1'
      have c2 := c2'
      have d2 := d2'
      clear c0' d0' c1' d1' c2' d2'
      obtain ⟨xa, xb, xc⟩ := x
      simp only at *
      have hso := fun y => otherEdg y xa xb xc xa xb xc
      have hng := guardEdg
      have hq : eqEdg xa xb xc xa xb xc = true := by simp [eqEdg]
      go_wp2_with fail
      go_quiet (fail)
      have HK := Lib.hid (hr.out.drewN nq)
      clear hr c0 d0 c1 d1 c2 d2 hso hng hq
      go_wp2_with fail
      go_roundw
      case rel => exact ⟨j + 1, by go_num, by omega, HK⟩
      case measure => simp [intOf] <;> omega
    · obtain rfl : j = L.length := by omega
      go_wp2_with fail
      go_ret
      exact ⟨rfl, hr.out⟩
def eqFlt (a0 a1 a2 b0 b1 b2 : Int) : Bool := (a0 == b0) && (a1 == b1) && (a2 == b2)
theorem eqInFlt (y : World) (a0 a1 a2 b0 b1 b2 : Int) : (Op.equalIn 10000 69 (.agg #[.int .i64 a0, .int .i64 a1, .int .i64 a2]) (.agg #[.int .i64 b0, .int .i64 b1, .int .i64 b2])).run Tryz.prog y = .ok (eqFlt a0 a1 a2 b0 b1 b2) y := by
  have e3 := Tryz.underlying3
  have e9 := Tryz.underlying59
  have hf : (Tryz.prog.fieldsOf 69).toList = [(Field.mk "At" 3 0 false "" "" 0), (Field.mk "Slot" 3 1 false "" "" 8), (Field.mk "Why" 59 2 false "" "" 16)] := by kernel_rfl
  rw [run_equalIn_struct (d := 9999) (ht := by kernel_rfl) (hp := by kernel_rfl), hf]
  rw [eqF_int (d := 9998) (f := (Field.mk "At" 3 0 false "" "" 0)) e3 (by decide) (a := a0) (b := b0) rfl rfl, eqF_int (d := 9998) (f := (Field.mk "Slot" 3 1 false "" "" 8)) e3 (by decide) (a := a1) (b := b1) rfl rfl, eqF_int (d := 9998) (f := (Field.mk "Why" 59 2 false "" "" 16)) e9 (by decide) (a := a2) (b := b2) rfl rfl]
  rw [Op.eqFields]
  unfold eqFlt
  cases a0 == b0 <;> cases a1 == b1 <;> cases a2 == b2 <;> rfl
theorem otherFlt (y : World) (a0 a1 a2 b0 b1 b2 : Int) : (binOp .neq 69 (.agg #[.int .i64 a0, .int .i64 a1, .int .i64 a2]) (.agg #[.int .i64 b0, .int .i64 b1, .int .i64 b2])).run Tryz.prog y = .ok (.bool (!eqFlt a0 a1 a2 b0 b1 b2)) y := by
  rw [run_neq_struct, eqInFlt]
  rfl
theorem guardFlt : Tryz.prog.eqGuardType Tryz.prog.depth 69 = false := by kernel_rfl
set_option maxRecDepth 100000 in
set_option maxHeartbeats 1000000 in
theorem sameFlt_ok {w : World} {A B : Option Addr} {cap cap2 : Nat} (L : List (Tri)) (hA : Seen Flt w A L) (hB : Seen Flt w B L) (hlen : L.length ≤ 1000000) :
    Calls Tryz.prog 30 #[.slice A L.length cap, .slice B L.length cap2] w fun e w' => e = .returned (.bool true) ∧ Kept [] w w' := by
  have HA := Lib.hid hA
  have HB := Lib.hid hB
  have K0 : Hid (Kept [] w w) := Lib.hid (Kept.refl _ _)
  clear hA hB
  go_enter Tryz.func30, Tryz.ntmps30
  go_wp2_with fail
  go_loopw [5] (fun t wr => ∃ j : Nat, t = .int .i64 (j : Int) ∧ j ≤ L.length ∧ Hid (Kept [] w wr)) (fun t _ => L.length - (intOf t).toNat)
  case atStart => exact ⟨0, rfl, Nat.zero_le _, K0⟩
  case round =>
    obtain ⟨j, rfl, hj, hr⟩ := hrel
    clear K0
    by_cases hlt : j < L.length
    · obtain ⟨x, hx⟩ : ∃ x, L[j]? = some x := ⟨_, List.getElem?_eq_getElem hlt⟩
      obtain ⟨Gc, oc, rfl, _, c0, c1, c2⟩ := seen_tri (K := Flt) (HA.out.keep0 hr.out) hx rfl
      obtain ⟨Gd, od, rfl, _, d0, d1, d2⟩ := seen_tri (K := Flt) (HB.out.keep0 hr.out) hx rfl
      have c0' : wr.cell? ⟨Gc, oc + j * 3, none⟩ = some (.int .i64 x.a) := c0
      have c1' : wr.cell? ⟨Gc, oc + j * 3 + 1, none⟩ = some (.int .i64 x.b) := c1
      have c2' : wr.cell? ⟨Gc, oc + j * 3 + 2, none⟩ = some (.int .i64 x.c) := c2
      have d0' : wr.cell? ⟨Gd, od + j * 3, none⟩ = some (.int .i64 x.a) := d0
      have d1' : wr.cell? ⟨Gd, od + j * 3 + 1, none⟩ = some (.int .i64 x.b) := d1
      have d2' : wr.cell? ⟨Gd, od + j * 3 + 2, none⟩ = some (.int .i64 x.c) := d2
      clear c0 d0 c1 d1 c2 d2 hx
      have c0 := c0'
      have d0 := d0'
      have c1 := c1'
      have d1 := d1'
      have c2 := c2'
      have d2 := d2'
      clear c0' d0' c1' d1' c2' d2'
      obtain ⟨xa, xb, xc⟩ := x
      simp only at *
      have hso := fun y => otherFlt y xa xb xc xa xb xc
      have hng := guardFlt
      have hq : eqFlt xa xb xc xa xb xc = true := by simp [eqFlt]
      go_wp2_with fail
      go_quiet (fail)
      have HK := Lib.hid (hr.out.drewN nq)
      clear hr c0 d0 c1 d1 c2 d2 hso hng hq
      go_wp2_with fail
      go_roundw
      case rel => exact ⟨j + 1, by go_num, by omega, HK⟩
      case measure => simp [intOf] <;> omega
    · obtain rfl : j = L.length := by omega
      go_wp2_with fail
      go_ret
      exact ⟨rfl, hr.out⟩
end Go.Proofs.YtagmmbkgjomdlaaGreatDoor.Wk

/-
  The law's alive returns true: the chapter's example.
-/
namespace Go.Proofs.YtagmmbkgjomdlaaGreatDoor.Wk
open Go.RowKit Go.Proofs.YtagmmbkgjomdlaaGreatDoor.Ar
open Go.Proofs.YtagmmbkgjomdlaaGreatDoor.Sp hiding Own own_from own_put back_own Seen own_cells seen_one
open Go.Proofs.YtagmmbkgjomdlaaGreatDoor.Sh (hdH ofE ofT ofS View)
open Go.Proofs.YtagmmbkgjomdlaaGreatDoor.Hd (Hd Fields)
open Go.Proofs.YtagmmbkgjomdlaaGreatDoor.Tb (Ty Tab newF)
open Go.Proofs.YtagmmbkgjomdlaaGreatDoor.Bt (Bv)
open Go.Proofs.YtagmmbkgjomdlaaGreatDoor.Wd (Table)
set_option linter.unusedVariables false

theorem view_ne {w x : World} {s : Ids} {r : Nat} {B : Option Addr} {d : Nat} {l : List Ty} {ws wd : List Int} {bs : List Bool} {cs : List Cel} (h : Duo w x s r B d l ws bs cs wd) {v p : Nat} {g sl : Int} {hd : Hd} {t : Ty} (hv : View x v p g hd t sl) : v ∉ r :: s.turn := by
  obtain ⟨q, cap, hD, _⟩ := h.doc
  intro hm
  rcases List.mem_cons.1 hm with hm | hm
  · exact Has.block_type hv.row hD.head (by decide) hm
  · exact h.mine.spc.beside hv.row (by decide) (by decide) (by decide) hm
theorem chk_space {ws : List Int} {l : List Ty} {bs : List Bool} {cs : List Cel} (h : Snd ws l bs cs) : chkF ws l bs cs = refF (objs cs) (rfs ws l (objs cs)) := by
  unfold chkF
  rw [allS_none h, frm_none h, List.nil_append, List.nil_append]
theorem own_one {K : RowK} {w : World} {v : Value} {x : K.α} (h : Own K w v [x]) : ∃ g cap, v = .slice (some ⟨g, 0, none⟩) 1 cap ∧ Seen K w (some ⟨g, 0, none⟩) [x] := by
  rcases h.form with ⟨_, h0⟩ | ⟨g, cap, e, _⟩
  · cases h0
  · subst e
    exact ⟨g, cap, rfl, h.seen⟩
section
variable {w : World}
set_option maxRecDepth 100000 in
set_option maxHeartbeats 8000000 in
theorem alive10_ok (hF : Fields w) (hTb : Table w) : Calls Tryz.prog 7 #[] w fun e w' => e = .returned (.bool true) ∧ Kept [] w w' := by
  have k0 : Kept [] w (w.alloc (.cells #[.int .u8 2, .int .i64 0, .int .u64 0] 84)) := (Kept.refl [] w).alloc _
  have HMd : Hid (Calls Tryz.prog 8 #[.int .i64 16, .slice (some ⟨w.heap.size, 0, none⟩) 1 1] (w.alloc (.cells #[.int .u8 2, .int .i64 0, .int .u64 0] 84)) (MadePost (w.alloc (.cells #[.int .u8 2, .int .i64 0, .int .u64 0] 84)) 16 (some ⟨w.heap.size, 0, none⟩) 1 exT)) := Lib.hid (by
    have hs : Tb.Seen (w.alloc (.cells #[.int .u8 2, .int .i64 0, .int .u64 0] 84)) (some ⟨w.heap.size, 0, none⟩) exT := Tb.seen_one (x := ⟨2, 0, 0⟩) (Has.new w 84 [.int .u8 2, .int .i64 0, .int .u64 0])
    exact made_ok (l := exT) 16 (by decide) (by decide) (hF.keep0 k0) (table_keep0 hTb k0) hs (fun x hx => by rw [List.mem_singleton.1 hx]; exact ⟨by decide, by decide⟩) (by decide))
  have HFd := Lib.hid hF
  have HK0 := Lib.hid k0
  clear hF hTb k0
  go_enter Tryz.func7, Tryz.ntmps7
  go_wp2_with fail
  refine HMd.out.mono ?_
  rintro e x1 (⟨h0, _, _⟩ | ⟨m, s, r, hm, _, rfl, hD⟩)
  · exfalso
    rcases h0 with h0 | h0
    · exact h0 ex_err
    · rw [ex_mayB] at h0; cases h0
  obtain rfl : m = 16 := by omega
  have HP := Lib.hid (duo_put hD 1 1 3 (by decide) (by decide) (by decide) (by decide))
  rw [ex_putE] at HP
  clear hD hm HMd
  generalize w.alloc (.cells #[.int .u8 2, .int .i64 0, .int .u64 0] 84) = x0 at *
  go_wp2_with fail
  refine HP.out.mono ?_
  rintro e x2 ⟨rfl, ⟨bs, cs, h2⟩, k2⟩
  have h2 : Duo x0 x2 s r (some ⟨w.heap.size, 0, none⟩) 1 exT exW1 bs cs (newW 16) := h2
  obtain rfl : cs = exB := Scans.same h2.mine.snd.scans ex_s1
  have HA := Lib.hid (arena_ok h2.mine.spc)
  have HT := Lib.hid (table_ok h2.mine.spc)
  have HV := Lib.hid (duo_view h2 1 (by decide) (by decide) ex_of1.1)
  have H2 := Lib.hid h2
  clear h2 k2 HP
  go_wp2_with fail
  refine HA.out.mono ?_
  rintro e y ⟨rfl, rfl⟩
  go_wp2_with fail
  refine HT.out.mono ?_
  rintro e y ⟨rfl, rfl⟩
  go_wp2_with fail
  refine HV.out.mono ?_
  rintro e x3 ⟨v, rfl, hv, k3⟩
  have h3 := H2.out.keep0 k3
  have HS := Lib.hid (duo_store (c := ⟨1, ⟨1, 1, 3, 2⟩⟩) h3 (by simp [exB]) rfl hv 0 1048578 (by decide) (by show (0 : Int) < ofS exW1 exT 1; rw [ex_of1.2.1]; decide) (by decide) (by decide))
  have HN := Lib.hid (view_ne h3 hv)
  have HVv := Lib.hid hv
  clear h3 hv k3 HA HT HV H2
  go_wp2_with fail
  refine HS.out.mono ?_
  rintro e x4 ⟨rfl, h4, k4⟩
  have h4 : Duo x0 x4 s r (some ⟨w.heap.size, 0, none⟩) 1 exT exW2 bs exB (newW 16) := h4
  have hv4 : View x4 v s.ap 1 (hdH exW2 1) (ofT exW2 exT 1) (ofS exW2 exT 1) := by
    have h := HVv.out.kept k4 HN.out
    rw [ex_h1, ex_t1, ex_of1.2.1, ← ex_of1.2.2] at h
    exact h
  have HS2 := Lib.hid (duo_store (c := ⟨1, ⟨1, 1, 3, 2⟩⟩) h4 (by simp [exB]) rfl hv4 1 1048580 (by decide) (by show (1 : Int) < ofS exW2 exT 1; rw [ex_of1.2.2]; decide) (by decide) (by decide))
  clear h4 hv4 k4 HS HN HVv
  go_wp2_with fail
  refine HS2.out.mono ?_
  rintro e x5 ⟨rfl, h5, k5⟩
  have h5 : Duo x0 x5 s r (some ⟨w.heap.size, 0, none⟩) 1 exT exW3 bs exB (newW 16) := h5
  have HSn := Lib.hid h5.mine.snd
  have HSp := Lib.hid h5.mine.spc
  have HFl := Lib.hid h5.mine.glob.f
  have HK5 := Lib.hid (HK0.out.trans h5.mine.kept)
  clear h5 k5 HS2
  have HA := Lib.hid (arena_ok HSp.out)
  have HT := Lib.hid (table_ok HSp.out)
  have HSt := Lib.hid (starts_ok HSp.out)
  go_wp2_with fail
  refine HA.out.mono ?_
  rintro e y ⟨rfl, rfl⟩
  go_wp2_with fail
  refine HT.out.mono ?_
  rintro e y ⟨rfl, rfl⟩
  go_wp2_with fail
  refine HSt.out.mono ?_
  rintro e x6 ⟨rfl, hb6, k6⟩
  have HCk := Lib.hid (check_ok (good_spc (HFl.out.keep0 k6) (HSp.out.keep0 k6)) ex_s3 hb6)
  have K6 := Lib.hid k6
  clear hb6 k6 HA HT HSt
  generalize x5.heap.size = b6 at *
  go_wp2_with fail
  refine HCk.out.mono ?_
  rintro e x7 ⟨vf, rfl, hof, _, k7⟩
  rw [chk_space HSn.out, ex_ref] at hof
  obtain ⟨gf, cf, rfl, hsf⟩ := own_one hof
  have K7 := Lib.hid (K6.out.trans k7)
  have HSf := Lib.hid hsf
  clear hof hsf k7 HCk K6
  have HT := Lib.hid (table_ok (HSp.out.keep0 K7.out))
  have HSt := Lib.hid (starts_ok (HSp.out.keep0 K7.out))
  go_wp2_with fail
  refine HT.out.mono ?_
  rintro e y ⟨rfl, rfl⟩
  go_wp2_with fail
  refine HSt.out.mono ?_
  rintro e x8 ⟨rfl, _, k8⟩
  have HCn := Lib.hid (check_nilA (some ⟨s.tp, 0, none⟩) (some ⟨x7.heap.size + 1, 0, none⟩) x8)
  have K8 := Lib.hid (K7.out.trans k8)
  have HSf8 := Lib.hid (HSf.out.keep0 k8)
  clear k8 HT HSt K7 HSf
  generalize x7.heap.size = b7 at *
  go_wp2_with fail
  refine HCn.out.mono ?_
  rintro e x9 ⟨rfl, k9⟩
  have k9a : Kept [] x9 (x9.alloc (.cells #[.int .i64 1, .int .i64 1, .int .i64 8] 69)) := (Kept.refl [] x9).alloc _
  have K9 := Lib.hid ((K8.out.trans k9).trans k9a)
  have HSf9 := Lib.hid (HSf8.out.keep0 (k9.trans k9a))
  have HSg9 := Lib.hid (seen_one (K := Flt) (x := ⟨1, 1, 8⟩) (Has.new x9 69 [.int .i64 1, .int .i64 1, .int .i64 8]))
  have HSm := Lib.hid (sameFlt_ok (cap := cf) (cap2 := 1) [(⟨1, 1, 8⟩ : Tri)] HSf9.out HSg9.out (by decide))
  rw [show [(⟨1, 1, 8⟩ : Tri)].length = 1 from rfl] at HSm
  clear k9 k9a HCn K8 HSf8 HSf9 HSg9
  go_wp2_with fail
  refine HSm.out.mono ?_
  rintro e x10 ⟨rfl, k10⟩
  have K10 := Lib.hid (K9.out.trans k10)
  have HEd := Lib.hid (edges_ok (from_spc (HSp.out.keep0 K10.out)) (good_spc (HFl.out.keep0 K10.out) (HSp.out.keep0 K10.out)) ex_s3)
  rw [ex_edg] at HEd
  clear k10 HSm K9
  go_wp2_with fail
  refine HEd.out.mono ?_
  rintro e x11 ⟨ve, rfl, hoe, _, k11⟩
  obtain ⟨ge, ce, rfl, hse⟩ := own_one hoe
  have k11a : Kept [] x11 (x11.alloc (.cells #[.int .i64 1, .int .i64 0, .int .i64 1] 90)) := (Kept.refl [] x11).alloc _
  have K11 := Lib.hid ((K10.out.trans k11).trans k11a)
  have HSm := Lib.hid (sameEdg_ok (cap := ce) (cap2 := 1) [(⟨1, 0, 1⟩ : Tri)] (hse.keep0 k11a) (seen_one (K := Edg) (x := ⟨1, 0, 1⟩) (Has.new x11 90 [.int .i64 1, .int .i64 0, .int .i64 1])) (by decide))
  rw [show [(⟨1, 0, 1⟩ : Tri)].length = 1 from rfl] at HSm
  clear hoe hse k11 k11a HEd K10
  go_wp2_with fail
  refine HSm.out.mono ?_
  rintro e x12 ⟨rfl, k12⟩
  have K12 := Lib.hid (K11.out.trans k12)
  have HCt := Lib.hid (count_ok (from_spc (HSp.out.keep0 K12.out)) (good_spc (HFl.out.keep0 K12.out) (HSp.out.keep0 K12.out)) ex_s3)
  rw [ex_tal, show (Tal.mk 1 1 1 2 5 1).enc.toArray = #[Value.int .i64 1, Value.int .i64 1, Value.int .i64 1, Value.int .i64 2, Value.int .i64 5, Value.int .i64 1] from rfl] at HCt
  have hse := fun y => sameTal y 1 1 1 2 5 1 1 1 1 2 5 1
  have hng := guardTal
  have hq := eqT_refl 1 1 1 2 5 1
  clear k12 HSm K11
  go_wp2_with fail
  refine HCt.out.mono ?_
  rintro e x13 ⟨rfl, k13⟩
  have K13 := Lib.hid (K12.out.trans k13)
  have HOb := Lib.hid (objects_ok (from_nil x13) (good_nil (HFl.out.keep0 K13.out)) scans_nil)
  clear k13 HCt K12
  go_wp2_with fail
  refine HOb.out.mono ?_
  rintro e x14 ⟨vo, rfl, hoo, _, k14⟩
  obtain ⟨Ao, co, rfl, _⟩ := Sp.back_own (Kept.refl [] _) hoo
  have k14a : Kept [] x14 (x14.alloc (.cells #[.int .u8 3] 5)) := (Kept.refl [] x14).alloc _
  have K14 := Lib.hid ((K13.out.trans k14).trans k14a)
  have HGp := Lib.hid (gaps_ok (c := 1) (tags := [3]) (from_spc (HSp.out.keep0 K14.out)) (good_spc (HFl.out.keep0 K14.out) (HSp.out.keep0 K14.out)) ex_s3 (By.Row.seen (l := [3]) (Has.new x14 5 [.int .u8 3])) (by decide))
  rw [ex_gap, show ([3] : List Int).length = 1 from rfl] at HGp
  rw [show (objs []).length = 0 from rfl]
  clear hoo k14 k14a HOb K13 hse hng hq
  go_wp2_with fail
  refine HGp.out.mono ?_
  rintro e x15 ⟨vg, rfl, hog, _, k15⟩
  obtain ⟨gg, cg, rfl, hsg⟩ := own_one hog
  have k15a : Kept [] x15 (x15.alloc (.cells #[.int .i64 3, .int .i64 5] 92)) := (Kept.refl [] x15).alloc _
  have K15 := Lib.hid ((K14.out.trans k15).trans k15a)
  have HSm := Lib.hid (sameRn_ok (cap := cg) (cap2 := 1) [((3, 5) : Int × Int)] (hsg.keep0 k15a) (seen_one (K := Rn) (x := ((3, 5) : Int × Int)) (Has.new x15 92 [.int .i64 3, .int .i64 5])) (by decide))
  rw [show [((3, 5) : Int × Int)].length = 1 from rfl] at HSm
  clear hog hsg k15 k15a HGp K14
  go_wp2_with fail
  refine HSm.out.mono ?_
  rintro e x16 ⟨rfl, k16⟩
  have K16 := Lib.hid (HK5.out.trans (K15.out.trans k16))
  clear k16 HSm K15
  go_wp2_with fail
  go_ret
  exact ⟨rfl, K16.out⟩
end
end Go.Proofs.YtagmmbkgjomdlaaGreatDoor.Wk
