/-
  The document's Put.
-/
import Derived.Test.YtkplagnmdjaajaaTbPut
import Derived.Test.YtkplagnmdjaajaaTbDoc
import Derived.Deep.RegionLaw
namespace Go.Proofs.Ytkplagnmdjaajaa.Tb
open Go.RowKit Go.Proofs.Ytkplagnmdjaajaa.Ar Go.Maps
set_option linter.unusedVariables false

theorem grew_kept {w w' : World} {n : Int} {bs : List Int} {v : Value} (h : Grew (w.alloc (.cells #[.int .u8 n] 5)) (.slice (some ⟨w.heap.size, 0, none⟩) 1 1) bs v w') : Kept [] w w' :=
  ((Kept.refl [] w).alloc _).forget h.2.1 fun i hi => by
    obtain rfl : i = w.heap.size := by simpa [Value.ownBlock] using hi
    exact Nat.le_refl _
set_option maxRecDepth 100000 in
set_option maxHeartbeats 8000000 in
theorem dput_ok {w : World} {A : Option Addr} {l : List Ty} (c : Nat) (hS : Seen w A l) (hok : ∀ x ∈ l, x.ok ∧ x.fit) (hlen : l.length ≤ 64) :
    Calls Try.prog 23 #[.slice A l.length c] w fun e w' => e = .returned (.string (strOfNums (enc l))) ∧ Kept [] w w' := by
  have HS := Lib.hid hS
  have HOK := Lib.hid hok
  have hu8 := u8_id (l.length : Int) (by omega) (by omega)
  have HO := Lib.hid (lit_own w (l.length : Int))
  clear hS hok
  go_enter Try.func23, Try.ntmps23
  go_wp2_with fail
  go_loopw [3, 4] (fun s t wr => ∃ j : Nat, t = .int .i64 (j : Int) ∧ j ≤ l.length ∧ Hid (Grew (w.alloc (.cells #[.int .u8 (l.length : Int)] 5)) (.slice (some ⟨w.heap.size, 0, none⟩) 1 1) ((l.length : Int) :: encL (l.take j)) s wr)) (fun _ t _ => l.length - (intOf t).toNat)
  case atStart => exact ⟨0, rfl, Nat.zero_le _, Lib.hid (Grew.refl HO.out)⟩
  case round =>
    obtain ⟨j, rfl, hj, hr⟩ := hrel
    clear HO
    by_cases hlt : j < l.length
    · obtain ⟨g, f, rfl, hg, hcells⟩ := HS.out.at j hlt _ rfl
      have hx := HOK.out _ (getD_mem hlt)
      have hstep := Lib.hid (encL_step hlt (l.length : Int))
      have hbl : ((l.length : Int) :: encL (l.take j)).length ≤ 1000000 := by
        rw [List.length_cons, encL_length, List.length_take]
        omega
      generalize hX : l.getD j Ty.zero = x at *
      generalize hL : (l.length : Int) :: encL (l.take j) = bs at *
      have hw8 := u8_id x.wd (fit_words hx.2).1 (by have := (fit_words hx.2).2; omega)
      have Hc := Lib.hid hcells
      obtain ⟨c0, c1, c2⟩ := hcells wr (grew_kept hr.out)
      have HO1 : Hid (By.Own (wr.alloc (.cells #[.int .u8 (x.k : Int), .int .u8 x.wd] 5)).drew u3 bs) := Lib.hid (hr.out.1.keep0 ((Kept.refl [] wr).alloc _).drew)
      clear hcells hg hx hX hL
      go_wp2_with fail
      go_region_law ((refine By.step_append_bytes (by rfl) (.tmp 16) (.tmp 28) (by rfl) u3 bs (by rfl) HO1.out _ 2 2 [(x.k : Int), x.wd] (by rfl) rfl (by decide) (Has.new wr _ _).drew (by omega) _ rfl ?_; intro v1 w1 hO1 hg1 hb1; have hn := Lib.hid ((hr.out.later ((Kept.refl [] wr).alloc _).drew).step hO1 hg1 hb1); clear hO1 hg1 hb1))
      all_goals
        clear HO1 c0 c1 c2 hr
        go_wp2_with fail
        go_loopw [3, 5] (fun s t wr => ∃ k : Nat, t = .int .i64 (k : Int) ∧ k ≤ 8 ∧ Hid (Grew (w.alloc (.cells #[.int .u8 (l.length : Int)] 5)) (.slice (some ⟨w.heap.size, 0, none⟩) 1 1) (bs ++ [(x.k : Int), x.wd] ++ maskTo x.ms k) s wr)) (fun _ t _ => 8 - (intOf t).toNat)
        case atStart => exact ⟨0, rfl, by decide, Lib.hid (by rw [show maskTo x.ms 0 = [] from rfl, List.append_nil]; exact hn.out)⟩
        case round =>
          clear hn
          obtain ⟨k, rfl, hk, hr⟩ := hrel
          by_cases hkl : k < 8
          · obtain ⟨c0, c1, c2⟩ := Hc.out _ (grew_kept hr.out)
            have hml := maskTo_length x.ms k
            have HSe : Hid (By.Seen (wr.alloc (.cells #[.int .u8 ((x.ms : Int) / 2 ^ (8 * k) % 256)] 5)) (some ⟨wr.heap.size, 0, none⟩) [(x.ms : Int) / 2 ^ (8 * k) % 256]) := Lib.hid (By.Row.seen (Has.new wr 5 (By.ints [(x.ms : Int) / 2 ^ (8 * k) % 256])))
            have HO := Lib.hid (hr.out.1.keep0 ((Kept.refl [] wr).alloc (.cells #[.int .u8 ((x.ms : Int) / 2 ^ (8 * k) % 256)] 5)))
            have hll : (bs ++ [(x.k : Int), x.wd] ++ maskTo x.ms k).length = bs.length + 2 + k := by rw [List.length_append, List.length_append, hml]; rfl
            generalize hL : bs ++ [(x.k : Int), x.wd] ++ maskTo x.ms k = L at *
            have HL := Lib.hid hL
            clear hL hml
            go_wp2_with (at_builtin; (refine By.append_numbers rfl (.tmp 34) (.tmp 45) rfl u3 L rfl HO.out (some ⟨wr.heap.size, 0, none⟩) 1 1 [(x.ms : Int) / 2 ^ (8 * k) % 256] rfl rfl (fun h => by cases h) HSe.out (by omega) ?_))
            intro s2 w2 hO2 hg2 hb2
            have hn := (hr.out.later ((Kept.refl [] wr).alloc (.cells #[.int .u8 ((x.ms : Int) / 2 ^ (8 * k) % 256)] 5))).step hO2 hg2 (by simpa using hb2)
            have HN : Hid (Grew (w.alloc (.cells #[.int .u8 (l.length : Int)] 5)) (.slice (some ⟨w.heap.size, 0, none⟩) 1 1) (bs ++ [(x.k : Int), x.wd] ++ maskTo x.ms (k + 1)) s2 w2) := Lib.hid (by
              have e : bs ++ [(x.k : Int), x.wd] ++ maskTo x.ms (k + 1) = L ++ [(x.ms : Int) / 2 ^ (8 * k) % 256] := by
                rw [← HL.out, List.append_assoc _ (maskTo x.ms k), Nat.mul_comm 8 k]
                rfl
              rw [e]
              exact hn)
            clear hO2 hg2 hb2 hn HSe HO c0 c1 c2 hr HL hll
            go_wp2_with fail
            go_roundw
            case rel => exact ⟨k + 1, by go_num, by omega, HN⟩
            case measure => simp [intOf] <;> omega
          · obtain rfl : k = 8 := by omega
            have HN : Hid (Grew (w.alloc (.cells #[.int .u8 (l.length : Int)] 5)) (.slice (some ⟨w.heap.size, 0, none⟩) 1 1) ((l.length : Int) :: encL (l.take (j + 1))) u3 wr) := Lib.hid (by
              rw [hstep.out]
              have := hr.out
              rw [List.append_assoc] at this
              exact this)
            clear hr
            go_wp2_with fail
            go_roundw
            case rel => exact ⟨j + 1, by go_num, by omega, HN⟩
            case measure => simp [intOf] <;> omega
    · obtain rfl : j = l.length := by omega
      have HG : Hid (Grew (w.alloc (.cells #[.int .u8 (l.length : Int)] 5)) (.slice (some ⟨w.heap.size, 0, none⟩) 1 1) (enc l) u3 wr) := Lib.hid (by
        have := hr.out
        rw [List.take_length] at this
        exact this)
      have hcv := conv_own HG.out.1
      clear hr
      generalize hS : strOfNums (enc l) = S at *
      have HSS := Lib.hid hS
      clear hS
      go_wp2_with fail
      go_ret
      rw [HSS.out]
      exact ⟨rfl, grew_kept HG.out⟩
end Go.Proofs.Ytkplagnmdjaajaa.Tb
