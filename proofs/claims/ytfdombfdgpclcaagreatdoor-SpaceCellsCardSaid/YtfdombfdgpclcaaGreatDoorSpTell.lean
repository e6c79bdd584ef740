/-
  The law's own functions: find, tiles, told; and the document's SameCells, of a row and the same row.
-/
import Derived.Test.YtfdombfdgpclcaaGreatDoorSpEq
import Derived.Test.YtfdombfdgpclcaaGreatDoorSpKeep
import Derived.Test.YtfdombfdgpclcaaGreatDoorSpBecome
import Derived.Deep.QuietTactic
import Derived.BigQuiet
import Derived.Lib.QuietBelow
namespace Go.Proofs.YtfdombfdgpclcaaGreatDoor.Sp
open Go.RowKit Go.Proofs.YtfdombfdgpclcaaGreatDoor.Ar Go.Proofs.YtfdombfdgpclcaaGreatDoor.Sh Go.Sort
open Go.Proofs.YtfdombfdgpclcaaGreatDoor.Hd (Hd)
open Go.Proofs.YtfdombfdgpclcaaGreatDoor.Tb (Ty)
set_option linter.unusedVariables false

/-- Which cell of a row is at a granule; below 0: none. -/
def findV (a : Int) : List Cel → Nat → Int
  | [], _ => -1
  | c :: cs, i => if c.a = a then (i : Int) else findV a cs (i + 1)
theorem findV_cases (a : Int) : ∀ (L : List Cel) (i : Nat), (findV a L i = -1 ∧ ∀ c ∈ L, c.a ≠ a) ∨ ∃ k, k < L.length ∧ findV a L i = ((i + k : Nat) : Int) ∧ (L.getD k Cel.zero).a = a
  | [], i => .inl ⟨rfl, fun c hc => by cases hc⟩
  | c :: cs, i => by
    unfold findV
    by_cases h : c.a = a
    · exact .inr ⟨0, by simp, by rw [if_pos h]; rfl, h⟩
    · rw [if_neg h]
      rcases findV_cases a cs (i + 1) with ⟨h1, h2⟩ | ⟨k, h1, h2, h3⟩
      · refine .inl ⟨h1, fun d hd => ?_⟩
        rcases List.mem_cons.1 hd with rfl | hd
        · exact h
        · exact h2 d hd
      · exact .inr ⟨k + 1, by simp; omega, by rw [h2]; congr 1; omega, h3⟩
section
variable {w : World} {A : Option Addr} {cap : Nat}
set_option maxRecDepth 100000 in
set_option maxHeartbeats 1000000 in
theorem find_ok (L : List Cel) (hS : Seen w A L) (a : Int) (hlen : L.length ≤ 1000000) :
    Calls Tryz.prog 12 #[.slice A L.length cap, .int .i64 a] w fun e w' => e = .returned (.int .i64 (findV a L 0)) ∧ w = w' := by
  have HS := Lib.hid hS
  have H0 : Hid (findV a L 0 = findV a (L.drop 0) 0) := Lib.hid rfl
  clear hS
  go_enter Tryz.func12, Tryz.ntmps12
  go_wp2_with fail
  go_loop [5] (fun t => ∃ j : Nat, t = .int .i64 (j : Int) ∧ j ≤ L.length ∧ Hid (findV a L 0 = findV a (L.drop j) j)) (fun t => L.length - (intOf t).toNat)
  case atStart => exact ⟨0, rfl, Nat.zero_le _, H0⟩
  case round =>
    obtain ⟨j, rfl, hj, hr⟩ := hrel
    clear H0
    by_cases hlt : j < L.length
    · obtain ⟨g, o, rfl, hg, c0, c1, c2, c3, c4⟩ := HS.out.at j hlt _ rfl
      have HX := Lib.hid (cel_drop hlt)
      generalize hx : L.getD j Cel.zero = x at HX c0 c1 c2 c3 c4
      clear hx
      obtain ⟨xa, ⟨xt, xy, xl, xz⟩⟩ := x
      simp only at *
      by_cases he : xa = a
      · have HN : Hid (findV a L 0 = (j : Int)) := Lib.hid (by rw [hr.out, HX.out]; unfold findV; rw [if_pos he])
        have hb : (xa == a) = true := by simpa using he
        clear hr HX he
        go_wp2_with fail
        go_ret
        exact ⟨ret_int HN.out.symm, rfl⟩
      · have HN : Hid (findV a L 0 = findV a (L.drop (j + 1)) (j + 1)) := Lib.hid (by rw [hr.out, HX.out]; show (if _ then _ else _) = _; rw [if_neg he])
        have hb : (xa == a) = false := by simpa using he
        clear hr HX he
        go_wp2_with fail
        go_round
        case rel => exact ⟨j + 1, by go_num, by omega, HN⟩
        case measure => simp [intOf] <;> omega
    · obtain rfl : j = L.length := by omega
      have HN : Hid (findV a L 0 = -1) := Lib.hid (by rw [hr.out, List.drop_length]; rfl)
      clear hr
      go_wp2_with fail
      go_ret
      exact ⟨ret_int HN.out.symm, rfl⟩
set_option maxRecDepth 100000 in
set_option maxHeartbeats 1000000 in
theorem tiles_ok {ws : List Int} {l : List Ty} (L : List Cel) (hS : Seen w A L) (N : Int) (hT : Tiled ws l 0 L N) (hN : N ≤ 100000) (hlen : L.length ≤ 1000000) :
    Calls Tryz.prog 14 #[.slice A L.length cap, .int .i64 N] w fun e w' => e = .returned (.bool true) ∧ w = w' := by
  have HS := Lib.hid hS
  have H0 : Hid (Tiled ws l 0 (L.drop 0) N) := Lib.hid hT
  have hN0 := hT.le
  clear hS hT
  go_enter Tryz.func14, Tryz.ntmps14
  go_wp2_with fail
  go_loop [5, 6] (fun v t => ∃ (j : Nat) (f : Int), v = .int .i64 f ∧ t = .int .i64 (j : Int) ∧ j ≤ L.length ∧ 0 ≤ f ∧ f ≤ 100000 ∧ Hid (Tiled ws l f (L.drop j) N)) (fun _ t => L.length - (intOf t).toNat)
  case atStart => exact ⟨0, 0, rfl, rfl, Nat.zero_le _, by omega, by omega, H0⟩
  case round =>
    obtain ⟨j, f, rfl, rfl, hj, f0, f1, hr⟩ := hrel
    clear H0
    by_cases hlt : j < L.length
    · obtain ⟨g, o, rfl, hg, c0, c1, c2, c3, c4⟩ := HS.out.at j hlt _ rfl
      have hx := cel_drop hlt
      have hT := hr.out
      rw [hx] at hT
      generalize L.getD j Cel.zero = x at hT c0 c1 c2 c3 c4
      obtain ⟨xa, ⟨xt, xy, xl, xz⟩⟩ := x
      obtain ⟨t1, t2, t3, t4, t5⟩ := hT
      have hz := can_sz t2
      have hle := t5.le
      simp only at *
      subst t1
      have HN := Lib.hid t5
      clear hr hx t2 t3 t4 t5
      go_wp2_with fail
      go_round
      case rel => exact ⟨j + 1, xa + xz, rfl, by go_num, by omega, by omega, by omega, HN⟩
      case measure => simp [intOf] <;> omega
    · obtain rfl : j = L.length := by omega
      have hT := hr.out
      rw [List.drop_length] at hT
      have hT : f = N := hT
      subst hT
      clear hr
      go_wp2_with fail
      go_ret
      exact ⟨rfl, rfl⟩
set_option maxRecDepth 100000 in
set_option maxHeartbeats 1000000 in
theorem same_ok {B : Option Addr} {cap2 : Nat} (L : List Cel) (hA : Seen w A L) (hB : Seen w B L) (hlen : L.length ≤ 1000000) :
    Calls Tryz.prog 13 #[.slice A L.length cap, .slice B L.length cap2] w fun e w' => e = .returned (.bool true) ∧ Kept [] w w' := by
  have HA := Lib.hid hA
  have HB := Lib.hid hB
  have K0 : Hid (Kept [] w w) := Lib.hid (Kept.refl _ _)
  clear hA hB
  go_enter Tryz.func13, Tryz.ntmps13
  go_wp2_with fail
  go_loopw [5] (fun t wr => ∃ j : Nat, t = .int .i64 (j : Int) ∧ j ≤ L.length ∧ Hid (Kept [] w wr)) (fun t _ => L.length - (intOf t).toNat)
  case atStart => exact ⟨0, rfl, Nat.zero_le _, K0⟩
  case round =>
    obtain ⟨j, rfl, hj, hr⟩ := hrel
    clear K0
    by_cases hlt : j < L.length
    · obtain ⟨g, o, rfl, hg, c0, c1, c2, c3, c4⟩ := (HA.out.keep0 hr.out).at j hlt _ rfl
      obtain ⟨g2, o2, rfl, hg2, d0, d1, d2, d3, d4⟩ := (HB.out.keep0 hr.out).at j hlt _ rfl
      generalize L.getD j Cel.zero = x at c0 c1 c2 c3 c4 d0 d1 d2 d3 d4
      obtain ⟨xa, ⟨xt, xy, xl, xz⟩⟩ := x
      simp only at *
      have hso := fun y => run_other y xa xt xy xl xz xa xt xy xl xz
      have hng := no_guard
      have hq := eqC_refl xa xt xy xl xz
      go_wp2_with fail
      go_quiet (fail)
      have HK := Lib.hid (hr.out.drewN nq)
      clear hr c0 c1 c2 c3 c4 d0 d1 d2 d3 d4 hso hng hq
      go_wp2_with fail
      go_roundw
      case rel => exact ⟨j + 1, by go_num, by omega, HK⟩
      case measure => simp [intOf] <;> omega
    · obtain rfl : j = L.length := by omega
      go_wp2_with fail
      go_ret
      exact ⟨rfl, hr.out⟩
end
end Go.Proofs.YtfdombfdgpclcaaGreatDoor.Sp
