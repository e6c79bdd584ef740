/-
  Several texts in one: ShRow, FdDocAll.
-/
import Derived.Test.YtdfnphgjjodfoaaGreatDoorG01
import Derived.Test.YtdfnphgjjodfoaaGreatDoorG19
import Derived.Test.YtdfnphgjjodfoaaGreatDoorFdDoc
import Derived.Test.YtdfnphgjjodfoaaGreatDoorG45
import Derived.Test.YtdfnphgjjodfoaaGreatDoorG21
import Derived.Test.YtdfnphgjjodfoaaGreatDoorG25
/-
  How an argument that is a row of words reads, nil among them.
-/
namespace Go.Proofs.YtdfnphgjjodfoaaGreatDoor.Sh
open Go.RowKit Go.ChangeShapes Go.WideShapes Go.Proofs.YtdfnphgjjodfoaaGreatDoor.Ar
set_option linter.unusedVariables false

section
variable {H : Type} {enc : TypeId × Value → H} {w : World} {base : Nat} {spare : Nat → Bool} {held : Bool} {fuel : Nat}
theorem row_of {A : Option Addr} {len cap : Nat} {x : DataW H × List MemPlace} (h : DataW.trod enc Tryz.prog w base spare held fuel 25 (Value.cells (.slice A len cap)).toList = some x) :
    ∃ l : List Int, l.length = len ∧ len ≤ cap ∧ cap ≤ maxLen ∧ Seen w A l ∧ (A = none → cap = 0) ∧ Wm l := by
  obtain ⟨l, h1, h2, h3, h4, h5⟩ := words_of h
  refine ⟨l, h1, h2, h3, h4, ?_, h5⟩
  rcases open_ints Tryz.underlying25 Tryz.underlying24 (by kernel_rfl) h with ⟨hcs, _⟩ | ⟨a, l, c, zs, hcs, _⟩
  · simp [Value.cells] at hcs
    exact fun _ => hcs.2.2
  · simp [Value.cells] at hcs
    rintro rfl
    cases hcs.1
end
end Go.Proofs.YtdfnphgjjodfoaaGreatDoor.Sh

/-
  Stage 11, find: the document's All, of a row of cells.
-/
namespace Go.Proofs.YtdfnphgjjodfoaaGreatDoor.Fd
open Go.RowKit Go.Proofs.YtdfnphgjjodfoaaGreatDoor.Ar Go.Proofs.YtdfnphgjjodfoaaGreatDoor.Sp
open Go.Proofs.YtdfnphgjjodfoaaGreatDoor.Hd (Hd fitL wordI)
open Go.Proofs.YtdfnphgjjodfoaaGreatDoor.Tb (Ty)
open Go.Proofs.YtdfnphgjjodfoaaGreatDoor.Sh (wordR wordB)
set_option linter.unusedVariables false

theorem take_at {cs : List Cel} {j : Nat} (hj : j < cs.length) : cs.take (j + 1) = cs.take j ++ [cs.getD j Cel.zero] := by
  rw [List.take_add_one, List.getElem?_eq_getElem hj, List.getD_eq_getElem?_getD, List.getElem?_eq_getElem hj]
  rfl
theorem take_num {us : List Int} {j : Nat} (hj : j < us.length) : us.take (j + 1) = us.take j ++ [us.getD j 0] := by
  rw [List.take_add_one, List.getElem?_eq_getElem hj, List.getD_eq_getElem?_getD, List.getElem?_eq_getElem hj]
  rfl
def leads (cs : List Cel) (a : Int) (us : List Int) : Bool := us.any fun u => ofA cs u == some a
theorem leads_snoc (cs : List Cel) (a : Int) (us : List Int) (u : Int) : leads cs a (us ++ [u]) = (leads cs a us || (ofA cs u == some a)) := by
  unfold leads
  rw [List.any_append]
  simp
def ledTo (all : List Cel) (us : List Int) (cs : List Cel) : List Int := (cs.filter fun c => leads all c.a us).map (·.a)
theorem ledTo_snoc (all : List Cel) (us : List Int) (cs : List Cel) (c : Cel) : ledTo all us (cs ++ [c]) = if leads all c.a us = true then ledTo all us cs ++ [c.a] else ledTo all us cs := by
  unfold ledTo
  rw [List.filter_append, List.map_append]
  cases h : leads all c.a us <;> simp [h]
theorem ledTo_len (all : List Cel) (us : List Int) (cs : List Cel) : (ledTo all us cs).length ≤ cs.length := by
  unfold ledTo
  rw [List.length_map]
  exact List.length_filter_le _ _
section
variable {w : World} {A : Option Addr} {cap : Nat}
set_option maxRecDepth 100000 in
set_option maxHeartbeats 8000000 in
theorem dall_ok (cs : List Cel) (hS : Sp.Seen w A cs) (hbd : ∀ c ∈ cs, 0 ≤ c.a ∧ c.a ≤ 1000000 ∧ 1 ≤ c.h.sz ∧ c.h.sz ≤ 1000000 ∧ endC c ≤ 32768) (hlen : cs.length ≤ 1000000)
    {B : Option Addr} {d : Nat} (us : List Int) (hB : Ar.Seen w B us) (hu : ∀ u ∈ us, 0 ≤ u ∧ u < 18446744073709551616) (hul : us.length ≤ 1000000) :
    Calls Tryz.prog 18 #[.slice A cs.length cap, .slice B us.length d] w fun e y => ∃ v, e = .returned v ∧ Ir.Own y v (allA cs us) ∧ Sp.FreshV w v ∧ Kept [] w y := by
  have HOf := Lib.hid (fun y (k : Kept [] w y) u (h : 0 ≤ u ∧ u < 18446744073709551616) => dof_ok (cap := cap) cs (hS.keep0 k) hbd hlen u h.1 h.2)
  have HA := Lib.hid hS
  have HB := Lib.hid hB
  have HU := Lib.hid hu
  have H0 : Hid (Ir.Own w (.slice none 0 0) (ledTo cs us (cs.take 0)) ∧ Sp.FreshV w (.slice none 0 0) ∧ Kept [] w w) := Lib.hid ⟨Ir.Own.nil _, .inl rfl, Kept.refl _ _⟩
  have HE : Hid (allA cs us = ledTo cs us cs) := Lib.hid rfl
  clear hS hbd hB hu
  go_enter Tryz.func18, Tryz.ntmps18
  go_wp2_with fail
  go_loopw [5, 6] (fun v t wr => ∃ j : Nat, t = .int .i64 (j : Int) ∧ j ≤ cs.length ∧ Hid (Ir.Own wr v (ledTo cs us (cs.take j)) ∧ Sp.FreshV w v ∧ Kept [] w wr)) (fun _ t _ => cs.length - (intOf t).toNat)
  case atStart => exact ⟨0, rfl, Nat.zero_le _, H0⟩
  case round =>
    obtain ⟨j, rfl, hj, hr⟩ := hrel
    clear H0
    generalize u5 = v at *
    have HO := Lib.hid hr.out.1
    have HV := Lib.hid hr.out.2.1
    have HK := Lib.hid hr.out.2.2
    clear hr
    by_cases hlt : j < cs.length
    · obtain ⟨gb, o, rfl, hg, a0, a1, a2, a3, a4⟩ := HA.out.at j hlt _ rfl
      have hsn := ledTo_snoc cs us (cs.take j) (cs.getD j Cel.zero)
      rw [← take_at hlt] at hsn
      have hfew : (ledTo cs us (cs.take j)).length + 1 ≤ 1073741824 := by
        have h1 := ledTo_len cs us (cs.take j)
        have h2 : (cs.take j).length ≤ j := by rw [List.length_take]; omega
        omega
      generalize cs.getD j Cel.zero = x at *
      obtain ⟨xa, ⟨xt, xy, xl, xz⟩⟩ := x
      simp only at hsn a0 a1 a2 a3 a4
      have HCl : Hid (∀ y : World, Kept [] w y → y.cell? ⟨gb, o + j * 5, none⟩ = some (.int .i64 xa)) := Lib.hid fun y ky => (World.cell?_of_block (w := w) (ky.old gb hg (by simp))).trans a0
      have HSn := Lib.hid hsn
      obtain ⟨wo, hwo⟩ : ∃ wo, wo = wr := ⟨_, rfl⟩
      subst hwo
      have HI0 : Hid (false = leads cs xa (us.take 0) ∧ Kept [] wo wo) := Lib.hid ⟨rfl, Kept.refl _ _⟩
      clear a0 a1 a2 a3 a4 hsn
      generalize ledTo cs us (cs.take j) = rs at *
      go_wp2_with fail
      go_loopw [7, 8] (fun b t wi => ∃ (k : Nat) (bb : Bool), b = .bool bb ∧ t = .int .i64 (k : Int) ∧ k ≤ us.length ∧ Hid (bb = leads cs xa (us.take k) ∧ Kept [] wo wi)) (fun _ t _ => us.length - (intOf t).toNat)
      case atStart => exact ⟨0, false, rfl, rfl, Nat.zero_le _, HI0⟩
      case round =>
        clear HI0
        obtain ⟨k, bb, rfl, rfl, hk, hi⟩ := hrel
        by_cases hkt : k < us.length
        · obtain ⟨gt, ot, rfl, hct⟩ := (HB.out.keep0 (HK.out.trans hi.out.2)).cells (by intro e; simp [e] at hkt)
          have ct := hct k hkt
          have hul1 := HU.out (us.getD k 0) (by rw [List.getD_eq_getElem?_getD, List.getElem?_eq_getElem hkt]; exact List.getElem_mem hkt)
          have hsu := leads_snoc cs xa (us.take k) (us.getD k 0)
          rw [← take_num hkt, ← hi.out.1] at hsu
          have HO1 := Lib.hid (HOf.out wr (HK.out.trans hi.out.2) (us.getD k 0) hul1)
          clear hct hul1
          generalize us.getD k 0 = u at *
          generalize ofA cs u = ou at *
          have HSu := Lib.hid hsu
          clear hsu
          cases bb with
          | true =>
            cases ou with
            | none =>
              unfold Option.getD Option.isSome at HO1
              simp only at HO1
              go_wp2_with fail
              refine HO1.out.mono ?_
              rintro e y ⟨rfl, ky⟩
              have HN : Hid (true = leads cs xa (us.take (k + 1)) ∧ Kept [] wo y) := Lib.hid ⟨by rw [HSu.out]; rfl, hi.out.2.trans ky⟩
              clear ky hi HSu HO1 ct
              go_wp2_with fail
              go_roundw
              case rel => exact ⟨k + 1, true, rfl, by go_num, by omega, HN⟩
              case measure => simp [intOf] <;> omega
            | some g9 =>
              unfold Option.getD Option.isSome at HO1
              simp only at HO1
              go_wp2_with fail
              refine HO1.out.mono ?_
              rintro e y ⟨rfl, ky⟩
              have HN : Hid (true = leads cs xa (us.take (k + 1)) ∧ Kept [] wo y) := Lib.hid ⟨by rw [HSu.out]; rfl, hi.out.2.trans ky⟩
              clear ky hi HSu HO1 ct
              go_wp2_with fail
              go_roundw
              case rel => exact ⟨k + 1, true, rfl, by go_num, by omega, HN⟩
              case measure => simp [intOf] <;> omega
          | false =>
            cases ou with
            | none =>
              unfold Option.getD Option.isSome at HO1
              simp only at HO1
              go_wp2_with fail
              refine HO1.out.mono ?_
              rintro e y ⟨rfl, ky⟩
              have HN : Hid (false = leads cs xa (us.take (k + 1)) ∧ Kept [] wo y) := Lib.hid ⟨by rw [HSu.out]; rfl, hi.out.2.trans ky⟩
              clear ky hi HSu HO1 ct
              go_wp2_with fail
              go_roundw
              case rel => exact ⟨k + 1, false, rfl, by go_num, by omega, HN⟩
              case measure => simp [intOf] <;> omega
            | some g9 =>
              unfold Option.getD Option.isSome at HO1
              simp only at HO1
              have c0 := HCl.out wr (HK.out.trans hi.out.2)
              by_cases hgx : g9 = xa
              · have hq : (g9 == xa) = true := by simpa using hgx
                have HSt : Hid (true = leads cs xa (us.take (k + 1))) := Lib.hid (by rw [HSu.out, hgx]; simp)
                clear hgx HSu c0
                go_wp2_with fail
                refine HO1.out.mono ?_
                rintro e y ⟨rfl, ky⟩
                have HN : Hid (true = leads cs xa (us.take (k + 1)) ∧ Kept [] wo y) := Lib.hid ⟨HSt.out, hi.out.2.trans ky⟩
                have c0 := HCl.out y ((HK.out.trans hi.out.2).trans ky)
                clear ky hi HSt HO1 ct
                go_wp2_with fail
                go_roundw
                case rel => exact ⟨k + 1, true, rfl, by go_num, by omega, HN⟩
                case measure => simp [intOf] <;> omega
              · have hq : (g9 == xa) = false := by simpa using hgx
                have HSt : Hid (false = leads cs xa (us.take (k + 1))) := Lib.hid (by rw [HSu.out]; simp [hgx])
                clear hgx HSu c0
                go_wp2_with fail
                refine HO1.out.mono ?_
                rintro e y ⟨rfl, ky⟩
                have HN : Hid (false = leads cs xa (us.take (k + 1)) ∧ Kept [] wo y) := Lib.hid ⟨HSt.out, hi.out.2.trans ky⟩
                have c0 := HCl.out y ((HK.out.trans hi.out.2).trans ky)
                clear ky hi HSt HO1 ct
                go_wp2_with fail
                go_roundw
                case rel => exact ⟨k + 1, false, rfl, by go_num, by omega, HN⟩
                case measure => simp [intOf] <;> omega
        · obtain rfl : k = us.length := by omega
          have hb := hi.out.1
          rw [List.take_length] at hb
          have hki := hi.out.2
          have hO1 := HO.out.keep0 hki
          have hK1 := HK.out.trans hki
          have c0 := HCl.out wr hK1
          have hsn := HSn.out
          rw [← hb] at hsn
          cases bb with
          | false =>
            have HN : Hid (Ir.Own wr v (ledTo cs us (cs.take (j + 1))) ∧ Sp.FreshV w v ∧ Kept [] w wr) := Lib.hid ⟨by rw [hsn, if_neg (by simp)]; exact hO1, HV.out, hK1⟩
            clear hsn hO1 HV hK1 hi hb hki HO HK HSn
            go_wp2_with fail
            go_roundw
            case rel => exact ⟨j + 1, by go_num, by omega, HN⟩
            case measure => simp [intOf] <;> omega
          | true =>
            rw [if_pos rfl] at hsn
            have HSn2 := Lib.hid hsn
            have kx := (Kept.refl [] wr).alloc (.cells #[.int .i64 xa] 3)
            have HSe : Hid (Ir.Seen (wr.alloc (.cells #[.int .i64 xa] 3)) (some ⟨wr.heap.size, 0, none⟩) [xa]) := Lib.hid (Ir.Row.seen (l := [xa]) (Has.new wr 3 [.int .i64 xa]))
            have HOa := Lib.hid (hO1.keep0 kx)
            have HKa := Lib.hid (hK1.trans kx)
            clear hsn hO1 hK1 hi hb hki HO HK HSn kx
            go_wp2_with (at_builtin; (refine Ir.append_numbers rfl (.tmp 46) (.tmp 52) rfl v rs rfl HOa.out (some ⟨wr.heap.size, 0, none⟩) 1 1 [xa] rfl rfl (fun h => by cases h) HSe.out (by omega) ?_))
            intro v' w4 o4 g4 b4
            have hk4 := own_grown HKa.out HV.out g4
            have hf4 := own_fresh (v' := v') HKa.out HV.out (by rw [World.size_alloc]; exact b4)
            have HN : Hid (Ir.Own w4 v' (ledTo cs us (cs.take (j + 1))) ∧ Sp.FreshV w v' ∧ Kept [] w w4) := Lib.hid ⟨by rw [HSn2.out]; exact o4, hf4, hk4⟩
            clear o4 g4 b4 hk4 hf4 HSn2 HSe HOa HKa HV c0
            go_wp2_with fail
            go_roundw
            case rel => exact ⟨j + 1, by go_num, by omega, HN⟩
            case measure => simp [intOf] <;> omega
    · obtain rfl : j = cs.length := by omega
      have ho := HO.out
      rw [List.take_length, ← HE.out] at ho
      have HO2 := Lib.hid ho
      clear ho HO
      go_wp2_with fail
      go_ret
      exact ⟨v, rfl, HO2.out, HV.out, HK.out⟩
end
end Go.Proofs.YtdfnphgjjodfoaaGreatDoor.Fd
