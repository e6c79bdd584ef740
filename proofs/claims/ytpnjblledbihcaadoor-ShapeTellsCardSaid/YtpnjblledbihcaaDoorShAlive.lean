/-
  The chapter's example: alive.
-/
import Derived.Test.YtpnjblledbihcaaDoorShBoth
import Derived.Test.YtpnjblledbihcaaDoorShSame
namespace Go.Proofs.YtpnjblledbihcaaDoor.Sh
open Go.RowKit Go.Proofs.YtpnjblledbihcaaDoor.Ar
open Go.Proofs.YtpnjblledbihcaaDoor.Hd (Hd Fields)
open Go.Proofs.YtpnjblledbihcaaDoor.Tb (Ty Tab Made NewPost newF)
set_option linter.unusedVariables false

def exT : List Ty := [⟨2, 0, 0⟩]
def ex0 : List Int := List.replicate 16 0
def ex1 : List Int := makeW ex0 exT 1 1 3
def ex2 : List Int := vput ex1 1 3 0 7
theorem ex_new : newF [] exT = (exT, 0) := by decide +kernel
theorem ex_make : makeE ex0.length exT 1 1 3 = 0 := by decide +kernel
theorem ex_of : ofE ex1 exT 1 = 0 := by decide +kernel
theorem ex_sl : ofS ex1 exT 1 = 3 := by decide +kernel
theorem ex_len : ex1.length = 16 := by decide +kernel
theorem ex_len2 : ex2.length = 16 := by decide +kernel
theorem ex_load : loadV ex2 3 = 7 ∧ Ar.within ex2.length 3 1 = true := by decide +kernel
theorem ex_of0 : ofE ex2 exT 0 = 7 := by decide +kernel
theorem ex_ref : wordsOf (pairs ex2 ((1 : Nat) : Int) (ofT ex1 exT 1) 3) = [7] := by decide +kernel
theorem ex_make7 : makeE ex2.length exT 7 1 3 = 2 := by decide +kernel
theorem ex_facts : (ofT ex1 exT 1).k < 256 ∧ (ofT ex1 exT 1).ms < 18446744073709551616 ∧ Kd.err (ofT ex1 exT 1).k (ofT ex1 exT 1).wd (ofT ex1 exT 1).ms (hdH ex1 1).ln = 0 ∧ Kd.slots (ofT ex1 exT 1).k (ofT ex1 exT 1).wd (hdH ex1 1).ln = 3 := by decide +kernel

section
variable {w : World}
set_option maxRecDepth 100000 in
set_option maxHeartbeats 2000000 in
theorem alive_ok (hF : Fields w) : Calls Tryd.prog 7 #[] w fun e w' => e = .returned (.bool true) ∧ Kept [] w w' := by
  have HN := Lib.hid (Ar.new_ok 16 (by decide) w)
  have HFd := Lib.hid hF
  have HT : Hid (∀ y : World, Calls Tryd.prog 23 #[.slice (some ⟨y.heap.size, 0, none⟩) 1 1] (y.alloc (.cells #[.int .u8 2, .int .i64 0, .int .u64 0] 55)) fun e x => ∃ p A c, e = .returned (.tuple #[.pointer (some ⟨p, 0, none⟩), .int .i64 0]) ∧ Made (y.alloc (.cells #[.int .u8 2, .int .i64 0, .int .u64 0] 55)) x p A c exT) := Lib.hid fun y => by
    have hs : Tb.Seen (y.alloc (.cells #[.int .u8 2, .int .i64 0, .int .u64 0] 55)) (some ⟨y.heap.size, 0, none⟩) exT := Tb.seen_one (x := ⟨2, 0, 0⟩) (Has.new y 55 [.int .u8 2, .int .i64 0, .int .u64 0])
    refine (Tb.new_ok (l := exT) 1 hs (fun x hx => by rw [List.mem_singleton.1 hx]; exact ⟨by decide, by decide⟩) (by decide)).mono ?_
    rintro e x (⟨_, p, A, c, h1, h2⟩ | ⟨h0, _⟩)
    · rw [ex_new] at h2
      exact ⟨p, A, c, h1, h2⟩
    · rw [ex_new] at h0
      exact absurd rfl h0
  clear hF
  go_enter Tryd.func7, Tryd.ntmps7
  go_wp2_with fail
  refine HN.out.mono ?_
  rintro e x1 ⟨p, q, rfl, hp, hq, hA, hK⟩
  have HA1 := Lib.hid (hA.keep0 ((Kept.refl [] x1).alloc (.cells #[.int .u8 2, .int .i64 0, .int .u64 0] 55)))
  have HK1 := Lib.hid (hK.alloc (.cells #[.int .u8 2, .int .i64 0, .int .u64 0] 55))
  have Hp := Lib.hid hp
  have Hq := Lib.hid hq
  clear hp hq hA hK HN
  go_wp2_with fail
  refine (HT.out _).mono ?_
  rintro e x2 ⟨tp, A, c, rfl, hm⟩
  have HB2 := Lib.hid (both_of HK1.out HA1.out Hp.out Hq.out hm (Wm.zeros 16))
  clear hm HA1 HK1 Hp Hq HT
  have hmk := both_make HFd.out HB2.out 1 1 3 (by decide) (by decide) (by decide) (by decide)
  rw [show (List.replicate 16 (0 : Int)) = ex0 from rfl, ex_make, show makeW ex0 exT 1 1 3 = ex1 from rfl] at hmk
  have HMk := Lib.hid hmk
  clear hmk HB2
  go_wp2_with fail
  refine HMk.out.mono ?_
  rintro e x3 ⟨rfl, hb3, _⟩
  have hv := both_view HFd.out hb3 1 (by decide) (by decide)
  have HV := Lib.hid hv
  clear hv hb3 HMk
  go_wp2_with fail
  refine HV.out.mono ?_
  rintro e x4 ⟨_, ⟨h0, _⟩ | ⟨_, v, rfl, hvw⟩⟩
  · exact absurd ex_of h0
  · rw [ex_sl] at hvw
    obtain ⟨m4, ha4⟩ := hvw.both.ar
    have hst := vstore_ok hvw.view ha4 0 7 (by decide) (by decide) (by rw [ex_len]; decide)
    rw [show slotE 3 0 = 0 from rfl, show vput ex1 1 3 0 7 = ex2 from rfl] at hst
    have HSt := Lib.hid hst
    have HVw := Lib.hid hvw
    clear hst hvw ha4 HV
    go_wp2_with fail
    refine HSt.out.mono ?_
    rintro e x5 ⟨rfl, ha5, k5⟩
    have hvw5 := HVw.out.wrote k5 ha5 (show Wm ex2 from by
      show Wm (vput ex1 1 3 0 7)
      exact HVw.out.both.wm.set _ 7 (by decide))
    obtain ⟨m5, ha5'⟩ := ha5
    have hld := load_any ha5' 3 (by decide) (by decide)
    rw [ex_load.1, ex_load.2] at hld
    have HLd := Lib.hid hld
    have HVw5 := Lib.hid hvw5
    clear hld hvw5 ha5' k5 HSt HVw
    go_wp2_with fail
    refine HLd.out.mono ?_
    rintro e x6 ⟨rfl, rfl⟩
    have hv0 := both_view HFd.out HVw5.out.both 0 (by decide) (by decide)
    have hlt := HVw5.out
    have HV0 := Lib.hid hv0
    clear hv0 HLd
    have hsrc := src_of HVw5.out (gn := 1) (sl := 3) rfl ex_facts.1 ex_facts.2.1 ex_facts.2.2.1 ex_facts.2.2.2 (by rw [ex_len2]; decide)
    clear hlt
    have HSrc := Lib.hid hsrc
    clear hsrc
    go_wp2_with fail
    refine HV0.out.mono ?_
    rintro e x7 ⟨k7, ⟨_, rfl, _⟩ | ⟨h0, _⟩⟩
    · have hvw7 := HVw5.out.keep0 k7
      have htg := vtargets_ok x7 (some ⟨v, 0, none⟩) _ (HSrc.out.keep0 k7) (by decide)
      rw [ex_ref] at htg
      rw [ex_of0]
      have HTg := Lib.hid htg
      have HVw7 := Lib.hid hvw7
      clear htg hvw7 k7 HV0 HVw5 HSrc
      go_wp2_with fail
      refine HTg.out.mono ?_
      rintro e x8 ⟨tv, rfl, hO, _, k8⟩
      obtain ⟨B, cb, rfl, hBk⟩ := back_own (Kept.refl [] x8) hO
      have hvw8 := (HVw7.out.keep0 k8).keep0 ((Kept.refl [] x8).alloc (.cells #[.int .u64 7] 22))
      have hsn : Seen (x8.alloc (.cells #[.int .u64 7] 22)) (some ⟨x8.heap.size, 0, none⟩) [7] := Row.seen (Has.new x8 22 (ints [7]))
      have hsm := sameW_any B (some ⟨x8.heap.size, 0, none⟩) [7] [7] cb 1 (x8.alloc (.cells #[.int .u64 7] 22)) (hBk.2.1.keep0 ((Kept.refl [] x8).alloc _)) hsn (by decide) (by decide)
      rw [sameB_self] at hsm
      have HSm := Lib.hid hsm
      have HVw8 := Lib.hid hvw8
      clear hsm hvw8 hsn hBk hO k8 HTg HVw7
      go_wp2_with fail
      refine HSm.out.mono ?_
      rintro e x9 ⟨rfl, k, rfl⟩
      have hvw9 := HVw8.out.keep0 ((Kept.refl [] (x8.alloc (.cells #[.int .u64 7] 22))).drewN k)
      have hmk := both_make HFd.out hvw9.both 7 1 3 (by decide) (by decide) (by decide) (by decide)
      rw [ex_make7] at hmk
      have HMk := Lib.hid hmk
      clear hmk hvw9 HSm HVw8
      generalize (x8.alloc (.cells #[.int .u64 7] 22)).drewN k = y9 at *
      go_wp2_with fail
      refine HMk.out.mono ?_
      rintro e x10 ⟨rfl, hb, _⟩
      have HB := Lib.hid hb.kept
      clear hb HMk
      go_wp2_with fail
      refine (addr_ok 3 (by decide)).mono ?_
      rintro e x11 ⟨rfl, rfl⟩
      go_wp2_with fail
      go_ret
      exact ⟨rfl, HB.out⟩
    · exact absurd (ex_of0.symm.trans h0) (by decide)
end
end Go.Proofs.YtpnjblledbihcaaDoor.Sh
