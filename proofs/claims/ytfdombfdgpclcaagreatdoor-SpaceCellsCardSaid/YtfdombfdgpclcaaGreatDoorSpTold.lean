/-
  The law's own function told: the objects of cells are just those of a row, all others are gaps told as they must be.
-/
import Derived.Test.YtfdombfdgpclcaaGreatDoorSpTell
namespace Go.Proofs.YtfdombfdgpclcaaGreatDoor.Sp
open Go.RowKit Go.Proofs.YtfdombfdgpclcaaGreatDoor.Ar Go.Proofs.YtfdombfdgpclcaaGreatDoor.Sh Go.Sort
open Go.Proofs.YtfdombfdgpclcaaGreatDoor.Hd (Hd)
open Go.Proofs.YtfdombfdgpclcaaGreatDoor.Tb (Ty)
set_option linter.unusedVariables false

def Told (C T : List Cel) : Prop := (∀ c ∈ C, (c.h.tg = 1 ∧ ∃ k : Nat, k < T.length ∧ findV c.a T 0 = (k : Int) ∧ T.getD k Cel.zero = c) ∨ (((c.h.tg = 2 ∧ c.h.sz = 1) ∨ (c.h.tg = 3 ∧ c.h.sz ≠ 1)) ∧ c.h.ty = 0 ∧ c.h.ln = 0)) ∧ (objs C).length = T.length
theorem objs_take {C : List Cel} {j : Nat} (h : j < C.length) : (objs (C.take (j + 1))).length = (objs (C.take j)).length + if (C.getD j Cel.zero).h.tg = 1 then 1 else 0 := by
  rw [show C.take (j + 1) = C.take j ++ [C.getD j Cel.zero] by rw [List.take_add_one, List.getD_eq_getElem?_getD, List.getElem?_eq_getElem h]; rfl, objs_append, List.length_append]
  by_cases hc : (C.getD j Cel.zero).h.tg = 1
  · rw [if_pos hc, objs_one hc]; rfl
  · rw [if_neg hc]
    unfold objs
    rw [List.filter_cons_of_neg (by simpa using hc)]
    rfl
section
variable {w : World} {A B : Option Addr} {cap capT : Nat}
set_option maxRecDepth 100000 in
set_option maxHeartbeats 2000000 in
theorem told_ok (C T : List Cel) (hA : Seen w A C) (hB : Seen w B T) (hT : Told C T) (hlen : C.length ≤ 1000000) (hlenT : T.length ≤ 1000000) :
    Calls Tryz.prog 15 #[.slice A C.length cap, .slice B T.length capT] w fun e w' => e = .returned (.bool true) ∧ Kept [] w w' := by
  have HA := Lib.hid hA
  have HB := Lib.hid hB
  have HT := Lib.hid hT
  have H0 : Hid (Kept [] w w ∧ ((0 : Nat) : Nat) = (objs (C.take 0)).length) := Lib.hid ⟨Kept.refl _ _, rfl⟩
  clear hA hB hT
  go_enter Tryz.func15, Tryz.ntmps15
  go_wp2_with fail
  go_loopw [5, 6] (fun v t wr => ∃ (j m : Nat), v = .int .i64 (m : Int) ∧ t = .int .i64 (j : Int) ∧ j ≤ C.length ∧ m ≤ j ∧ Hid (Kept [] w wr ∧ m = (objs (C.take j)).length)) (fun _ t _ => C.length - (intOf t).toNat)
  case atStart => exact ⟨0, 0, rfl, rfl, Nat.zero_le _, Nat.zero_le _, H0⟩
  case round =>
    obtain ⟨j, m, rfl, rfl, hj, hm, hr⟩ := hrel
    clear H0
    by_cases hlt : j < C.length
    · obtain ⟨g, o, rfl, hg, c0, c1, c2, c3, c4⟩ := (HA.out.keep0 hr.out.1).at j hlt _ rfl
      have hc := HT.out.1 _ (cel_mem hlt)
      have hn := objs_take hlt
      generalize C.getD j Cel.zero = x at hc hn c0 c1 c2 c3 c4
      obtain ⟨xa, ⟨xt, xy, xl, xz⟩⟩ := x
      simp only at *
      have hwr : Kept [] wr (wr.alloc (.cells #[.int .i64 xa, .int .u8 xt, .int .i64 xy, .int .i64 xl, .int .i64 xz] 45)) := (Kept.refl [] wr).alloc _
      have hb := Has.new wr 45 [.int .i64 xa, .int .u8 xt, .int .i64 xy, .int .i64 xl, .int .i64 xz]
      obtain ⟨d0, d1, d2, d3, d4⟩ := cells5 hb
      have K1 := Lib.hid (hr.out.1.trans hwr)
      have Hm := Lib.hid hr.out.2
      have Hb := Lib.hid hb
      clear hwr hb hr
      rcases hc with ⟨ht, k, hk, hf, hg2⟩ | ⟨ht, hy, hl⟩
      · subst ht
        rw [if_pos rfl] at hn
        have Hn := Lib.hid hn
        have HF := Lib.hid (fun y (ky : Kept [] w y) => find_ok (cap := capT) T (HB.out.keep0 ky) xa hlenT)
        rw [hf] at HF
        obtain ⟨g2, o2, rfl, _, _⟩ := (HB.out).at k hk _ rfl
        have Hg2 := Lib.hid hg2
        clear hn hf hg2
        go_wp2_with fail
        refine (HF.out _ K1.out).mono ?_
        rintro e w2 ⟨rfl, rfl⟩
        obtain ⟨g3, o3, e3, _, f0, f1, f2, f3, f4⟩ := (HB.out.keep0 K1.out).at k hk _ rfl
        injection e3 with e3
        injection e3 with e3 e4
        subst e3 e4
        rw [Hg2.out] at f0 f1 f2 f3 f4
        simp only at f0 f1 f2 f3 f4
        have hso := fun y => run_other y xa 1 xy xl xz xa 1 xy xl xz
        have hng := no_guard
        have hq := eqC_refl xa 1 xy xl xz
        have hk0 : decide ((k : Int) < 0) = false := decide_eq_false (by omega)
        clear HF c0 c1 c2 c3 c4
        go_wp2_with fail
        go_quiet (fail)
        have HR : Hid (Kept [] w ((wr.alloc (.cells #[.int .i64 xa, .int .u8 1, .int .i64 xy, .int .i64 xl, .int .i64 xz] 45)).drewN nq) ∧ m + 1 = (objs (C.take (j + 1))).length) := Lib.hid ⟨K1.out.drewN nq, by rw [Hn.out, Hm.out]⟩
        clear f0 f1 f2 f3 f4 d0 d1 d2 d3 d4 hso hng hq K1 Hb Hm
        go_wp2_with fail
        go_roundw
        case rel => exact ⟨j + 1, m + 1, by go_num, by go_num, by omega, by omega, HR⟩
        case measure => simp [intOf] <;> omega
      · subst hy hl
        rcases ht with ⟨rfl, rfl⟩ | ⟨rfl, hz⟩
        · rw [if_neg (by decide)] at hn
          have HR : Hid (Kept [] w (wr.alloc (.cells #[.int .i64 xa, .int .u8 2, .int .i64 0, .int .i64 0, .int .i64 1] 45)) ∧ m = (objs (C.take (j + 1))).length) := Lib.hid ⟨K1.out, by rw [hn, Hm.out]; rfl⟩
          clear hn Hm K1 Hb
          go_wp2_with fail
          go_roundw
          case rel => exact ⟨j + 1, m, rfl, by go_num, by omega, by omega, HR⟩
          case measure => simp [intOf] <;> omega
        · rw [if_neg (by decide)] at hn
          have hz1 : (xz == 1) = false := by simpa using hz
          have HR : Hid (Kept [] w (wr.alloc (.cells #[.int .i64 xa, .int .u8 3, .int .i64 0, .int .i64 0, .int .i64 xz] 45)) ∧ m = (objs (C.take (j + 1))).length) := Lib.hid ⟨K1.out, by rw [hn, Hm.out]; rfl⟩
          clear hn Hm K1 Hb hz
          go_wp2_with fail
          go_roundw
          case rel => exact ⟨j + 1, m, rfl, by go_num, by omega, by omega, HR⟩
          case measure => simp [intOf] <;> omega
    · obtain rfl : j = C.length := by omega
      have hmT : (m : Int) = (T.length : Int) := by
        have h1 := hr.out.2
        rw [List.take_length] at h1
        rw [h1, HT.out.2]
      have hb : ((m : Int) == (T.length : Int)) = true := by simpa using hmT
      have HK := Lib.hid hr.out.1
      clear hr hmT
      go_wp2_with fail
      go_ret
      exact ⟨ret_bool (by simp), HK.out⟩
end
end Go.Proofs.YtfdombfdgpclcaaGreatDoor.Sp
