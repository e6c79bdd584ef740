/-
  Several texts in one: SpEq, SpTell, SpAlive, SpExample.
-/
import Derived.Test.YtoagghileebokaaGreatDoorG10
import Derived.Test.YtoagghileebokaaGreatDoorG16
import Derived.Test.YtoagghileebokaaGreatDoorG21
import Derived.Test.YtoagghileebokaaGreatDoorG23
import Derived.Deep.QuietTactic
import Derived.BigQuiet
import Derived.Lib.QuietBelow
import Derived.Test.YtoagghileebokaaGreatDoorG25
/-
  Two cells held against each other: == and !=.
-/
namespace Go.Proofs.YtoagghileebokaaGreatDoor.Sp
open Go.RowKit Go.Proofs.YtoagghileebokaaGreatDoor.Ar
open Go.Proofs.YtoagghileebokaaGreatDoor.Hd (Hd eqB eqB_iff eqF_int part_int)
set_option linter.unusedVariables false

theorem eqHead (d : Nat) (y : World) (a0 a1 a2 a3 b0 b1 b2 b3 : Int) : (Op.equalIn (d + 2) 49 (.agg #[.int .u8 a0, .int .i64 a1, .int .i64 a2, .int .i64 a3]) (.agg #[.int .u8 b0, .int .i64 b1, .int .i64 b2, .int .i64 b3])).run Tryz.prog y = .ok (eqB a0 a1 a2 a3 b0 b1 b2 b3) y := by
  have e5 := Tryz.underlying5
  have e3 := Tryz.underlying3
  have hf : (Tryz.prog.fieldsOf 49).toList = [(Field.mk "Tag" 5 0 false "" "" 0), (Field.mk "Type" 3 1 false "" "" 8), (Field.mk "Len" 3 2 false "" "" 16), (Field.mk "Size" 3 3 false "" "" 24)] := by kernel_rfl
  rw [run_equalIn_struct (d := d + 1) (ht := by kernel_rfl) (hp := by kernel_rfl), hf]
  rw [eqF_int (d := d) (f := (Field.mk "Tag" 5 0 false "" "" 0)) e5 (by decide) (a := a0) (b := b0) rfl rfl, eqF_int (d := d) (f := (Field.mk "Type" 3 1 false "" "" 8)) e3 (by decide) (a := a1) (b := b1) rfl rfl,
    eqF_int (d := d) (f := (Field.mk "Len" 3 2 false "" "" 16)) e3 (by decide) (a := a2) (b := b2) rfl rfl, eqF_int (d := d) (f := (Field.mk "Size" 3 3 false "" "" 24)) e3 (by decide) (a := a3) (b := b3) rfl rfl]
  rw [Op.eqFields]
  unfold eqB
  cases a0 == b0 <;> cases a1 == b1 <;> cases a2 == b2 <;> cases a3 == b3 <;> rfl
def eqC (x a0 a1 a2 a3 y b0 b1 b2 b3 : Int) : Bool := (x == y) && eqB a0 a1 a2 a3 b0 b1 b2 b3
theorem eqC_iff (a b : Cel) : eqC a.a a.h.tg a.h.ty a.h.ln a.h.sz b.a b.h.tg b.h.ty b.h.ln b.h.sz = true ↔ a = b := by
  unfold eqC
  rw [Bool.and_eq_true, beq_iff_eq, eqB_iff]
  constructor
  · rintro ⟨h1, h2⟩
    exact Cel.eq h1 h2
  · rintro rfl
    exact ⟨rfl, rfl⟩
theorem eqC_refl (x a0 a1 a2 a3 : Int) : eqC x a0 a1 a2 a3 x a0 a1 a2 a3 = true := (eqC_iff ⟨x, ⟨a0, a1, a2, a3⟩⟩ ⟨x, ⟨a0, a1, a2, a3⟩⟩).2 rfl
theorem part_head (x a0 a1 a2 a3 : Int) (y : World) : (part 49 #[.int .i64 x, .int .u8 a0, .int .i64 a1, .int .i64 a2, .int .i64 a3] 1).run Tryz.prog y = .ok (.agg #[.int .u8 a0, .int .i64 a1, .int .i64 a2, .int .i64 a3]) y := by kernel_rfl
theorem eqF_head (d : Nat) (y : World) (x a0 a1 a2 a3 z b0 b1 b2 b3 : Int) : (Op.eqFields (d + 2) #[.int .i64 x, .int .u8 a0, .int .i64 a1, .int .i64 a2, .int .i64 a3] #[.int .i64 z, .int .u8 b0, .int .i64 b1, .int .i64 b2, .int .i64 b3] [Field.mk "Head" 49 1 true "" "" 8]).run Tryz.prog y = .ok (eqB a0 a1 a2 a3 b0 b1 b2 b3) y := by
  rw [Op.eqFields, if_pos (by decide)]
  simp only [Sem.run_bind, part_head, Result.andThen_ok, eqHead d, Sem.run_ite]
  rw [Op.eqFields]
  cases eqB a0 a1 a2 a3 b0 b1 b2 b3 <;> rfl
theorem eqIn_cell (y : World) (x a0 a1 a2 a3 z b0 b1 b2 b3 : Int) : (Op.equalIn 10000 51 (.agg #[.int .i64 x, .int .u8 a0, .int .i64 a1, .int .i64 a2, .int .i64 a3]) (.agg #[.int .i64 z, .int .u8 b0, .int .i64 b1, .int .i64 b2, .int .i64 b3])).run Tryz.prog y = .ok (eqC x a0 a1 a2 a3 z b0 b1 b2 b3) y := by
  have e3 := Tryz.underlying3
  have hf : (Tryz.prog.fieldsOf 51).toList = [(Field.mk "At" 3 0 false "" "" 0), (Field.mk "Head" 49 1 true "" "" 8)] := by kernel_rfl
  rw [run_equalIn_struct (d := 9999) (ht := by kernel_rfl) (hp := by kernel_rfl), hf]
  rw [eqF_int (d := 9998) (f := (Field.mk "At" 3 0 false "" "" 0)) e3 (by decide) (a := x) (b := z) rfl rfl]
  rw [show (9998 + 1 : Nat) = 9997 + 2 from rfl, eqF_head 9997]
  unfold eqC
  cases x == z <;> cases eqB a0 a1 a2 a3 b0 b1 b2 b3 <;> rfl
theorem run_same (y : World) (x a0 a1 a2 a3 z b0 b1 b2 b3 : Int) : (binOp .eql 51 (.agg #[.int .i64 x, .int .u8 a0, .int .i64 a1, .int .i64 a2, .int .i64 a3]) (.agg #[.int .i64 z, .int .u8 b0, .int .i64 b1, .int .i64 b2, .int .i64 b3])).run Tryz.prog y = .ok (.bool (eqC x a0 a1 a2 a3 z b0 b1 b2 b3)) y := by
  rw [run_eql_struct, eqIn_cell]
  rfl
theorem run_other (y : World) (x a0 a1 a2 a3 z b0 b1 b2 b3 : Int) : (binOp .neq 51 (.agg #[.int .i64 x, .int .u8 a0, .int .i64 a1, .int .i64 a2, .int .i64 a3]) (.agg #[.int .i64 z, .int .u8 b0, .int .i64 b1, .int .i64 b2, .int .i64 b3])).run Tryz.prog y = .ok (.bool (!eqC x a0 a1 a2 a3 z b0 b1 b2 b3)) y := by
  rw [run_neq_struct, eqIn_cell]
  rfl
theorem no_guard : Tryz.prog.eqGuardType Tryz.prog.depth 51 = false := by kernel_rfl
end Go.Proofs.YtoagghileebokaaGreatDoor.Sp

/-
  The law's own functions: find, tiles, told; and the document's SameCells, of a row and the same row.
-/
namespace Go.Proofs.YtoagghileebokaaGreatDoor.Sp
open Go.RowKit Go.Proofs.YtoagghileebokaaGreatDoor.Ar Go.Proofs.YtoagghileebokaaGreatDoor.Sh Go.Sort
open Go.Proofs.YtoagghileebokaaGreatDoor.Hd (Hd)
open Go.Proofs.YtoagghileebokaaGreatDoor.Tb (Ty)
set_option linter.unusedVariables false

section
variable {w : World} {A : Option Addr} {cap : Nat}
set_option maxRecDepth 100000 in
set_option maxHeartbeats 1000000 in
theorem same_ok {B : Option Addr} {cap2 : Nat} (L : List Cel) (hA : Seen w A L) (hB : Seen w B L) (hlen : L.length ≤ 1000000) :
    Calls Tryz.prog 16 #[.slice A L.length cap, .slice B L.length cap2] w fun e w' => e = .returned (.bool true) ∧ Kept [] w w' := by
  have HA := Lib.hid hA
  have HB := Lib.hid hB
  have K0 : Hid (Kept [] w w) := Lib.hid (Kept.refl _ _)
  clear hA hB
  go_enter Tryz.func16, Tryz.ntmps16
  go_wp2_with fail
  go_loopw [5] (fun t wr => ∃ j : Nat, t = .int .i64 (j : Int) ∧ j ≤ L.length ∧ Hid (Kept [] w wr)) (fun t _ => L.length - (intOf t).toNat)
  case atStart => exact ⟨0, rfl, Nat.zero_le _, K0⟩
  case round =>
    obtain ⟨j, rfl, hj, hr⟩ := hrel
    clear K0
    by_cases hlt : j < L.length
    · obtain ⟨g, o, rfl, hg, c0, c1, c2, c3, c4⟩ := (HA.out.keep0 hr.out).at j hlt _ rfl
      obtain ⟨g2, o2, rfl, hg2, d0, d1, d2, d3, d4⟩ := (HB.out.keep0 hr.out).at j hlt _ rfl
      generalize L.getD j Cel.zero = x at c0 c1 c2 c3 c4 d0 d1 d2 d3 d4
      obtain ⟨xa, ⟨xt, xy, xl, xz⟩⟩ := x
      simp only at *
      have hso := fun y => run_other y xa xt xy xl xz xa xt xy xl xz
      have hng := no_guard
      have hq := eqC_refl xa xt xy xl xz
      go_wp2_with fail
      go_quiet (fail)
      have HK := Lib.hid (hr.out.drewN nq)
      clear hr c0 c1 c2 c3 c4 d0 d1 d2 d3 d4 hso hng hq
      go_wp2_with fail
      go_roundw
      case rel => exact ⟨j + 1, by go_num, by omega, HK⟩
      case measure => simp [intOf] <;> omega
    · obtain rfl : j = L.length := by omega
      go_wp2_with fail
      go_ret
      exact ⟨rfl, hr.out⟩
end
end Go.Proofs.YtoagghileebokaaGreatDoor.Sp

/-
  The chapter's example: alive.
-/
namespace Go.Proofs.YtoagghileebokaaGreatDoor.Sp
open Go.RowKit Go.Proofs.YtoagghileebokaaGreatDoor.Ar Go.Proofs.YtoagghileebokaaGreatDoor.Sh
open Go.Proofs.YtoagghileebokaaGreatDoor.Hd (Hd Fields)
open Go.Proofs.YtoagghileebokaaGreatDoor.Tb (Ty Tab Made NewPost newF sizeE sizeT)
open Go.Proofs.YtoagghileebokaaGreatDoor.Wd (Table)
set_option linter.unusedVariables false

theorem gran_zeros {n : Nat} (h : mayB (n : Int) = true) : gran (List.replicate n 0) = (n : Int) / 2 ∧ 8 ≤ gran (List.replicate n 0) ∧ gran (List.replicate n 0) ≤ 32768 := by
  obtain ⟨h1, h2, _⟩ := (mayB_iff _).1 h
  unfold gran
  rw [List.length_replicate]
  omega
/-- A new space is one gap. -/
def newC (n : Nat) : List Cel := gapL 0 ((n : Int) / 2)
theorem new_snd {n : Nat} (h : mayB (n : Int) = true) (l : List Ty) : Snd (newW n) l (newB n) (newC n) := by
  obtain ⟨g1, g2, g3⟩ := gran_zeros h
  have h2 := ((mayB_iff _).1 h).2.1
  have hl : (List.replicate n (0 : Int)).length ≤ 65536 := by rw [List.length_replicate]; omega
  have hwl : (newW n).length = (List.replicate n (0 : Int)).length := becomeW_length _ _ _ _
  have ht := (become_tiled (l := l) (e := gran (List.replicate n 0)) [] (List.replicate n 0) 0 (Int.le_refl _) (Int.le_refl _) hl (show (0 : Int) ≤ _ by omega)).1
  refine ⟨?_, ?_, ?_, ?_, by rw [hwl]; exact hl⟩
  · rw [gran_eq hwl]
    unfold newC
    rw [← g1]
    exact ht
  · unfold newC
    rw [objs_gapL]
    have ha := become_agree (bs := List.replicate (gran (List.replicate n 0)).toNat false) (a := []) (m := []) (b := []) (cs := []) (f := 0) (e := gran (List.replicate n 0)) (agree_none _) (Int.le_refl _) (by omega) (by rw [List.length_replicate]; omega) (fun c h => by cases h) (fun c h => by cases h) (fun c h => by cases h) (fun c h => by cases h)
    exact ha
  · unfold newB
    rw [becomeB_length, List.length_replicate, gran_eq hwl]
    omega
  · exact neat_gapL _ _
section
variable {w : World}
theorem zero_new (n : Nat) (hn : mayB (n : Int) = true) {x : World} {tp : Nat} {A : Option Addr} {c : Nat} {l : List Ty} (hF : Fields x) (hT : Tab x tp A c l) (k : Kept [] w x) :
    Calls Tryz.prog 20 #[.int .i64 (n : Int), .pointer (some ⟨tp, 0, none⟩)] x fun e y => ∃ s : Ids, e = .returned (.tuple #[.pointer (some ⟨s.sp, 0, none⟩), .int .i64 0]) ∧ s.tp = tp ∧ Has0 w y s l (newC n) ∧ Kept [] x y := by
  refine (new_yes0 n hn hF hT).mono ?_
  rintro e y ⟨s, he, hs, hS, hk, hf⟩
  refine ⟨s, he, hs, ⟨_, _, k.trans hk, hS, ⟨hF.keep0 hk, fun hm => ?_⟩, new_snd hn l, fun i hi => Nat.le_trans k.more (hf i hi)⟩, hk⟩
  have := hf _ hm
  have := hF.lt
  omega
end
end Go.Proofs.YtoagghileebokaaGreatDoor.Sp

/-
  The chapter's example, step by step: what the law's alive asks.
-/
namespace Go.Proofs.YtoagghileebokaaGreatDoor.Sp
open Go.RowKit Go.Proofs.YtoagghileebokaaGreatDoor.Ar Go.Proofs.YtoagghileebokaaGreatDoor.Sh
open Go.Proofs.YtoagghileebokaaGreatDoor.Hd (Hd Fields ofL)
open Go.Proofs.YtoagghileebokaaGreatDoor.Tb (Ty Tab Made NewPost newF sizeE sizeT)
open Go.Proofs.YtoagghileebokaaGreatDoor.Bt (bit atI prevO nextO hasV)
open Go.Proofs.YtoagghileebokaaGreatDoor.Wd (Table)
set_option linter.unusedVariables false

def exT : List Ty := [⟨2, 0, 0⟩]
def exA : List Cel := [⟨0, ⟨3, 0, 0, 8⟩⟩]
theorem ex_new : newF [] exT = (exT, 0) := by decide +kernel
theorem ex_size : sizeE exT 1 3 = 0 ∧ ofL exT 1 3 = ⟨1, 1, 3, 2⟩ := by decide +kernel
theorem ex_a : newC 16 = exA := by rfl
section
variable {w x : World} {s : Ids}
end
end Go.Proofs.YtoagghileebokaaGreatDoor.Sp
