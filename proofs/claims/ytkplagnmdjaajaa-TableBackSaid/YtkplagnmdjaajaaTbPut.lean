/-
  The contract of Put.
-/
import Derived.Test.YtkplagnmdjaajaaTbBytes
namespace Go.Proofs.Ytkplagnmdjaajaa.Tb
open Go.RowKit Go.Proofs.Ytkplagnmdjaajaa.Ar Go.Maps
set_option linter.unusedVariables false

/-- The string of a row of bytes that a call made. -/
theorem conv_own {w : World} {v : Value} {bs : List Int} (h : By.Own w v bs) : (convert 62 9 v).run Try.prog w = .ok (.string (strOfNums bs)) w := by
  rcases h.form with ⟨rfl, rfl⟩ | ⟨g, cap, rfl, _⟩
  · exact run_convert_bytes_nil w 62 5 Try.underlying62 Try.underlying5 0 0 9 Try.underlying9
  · exact run_convert_bytes_arg w 62 5 Try.underlying62 Try.underlying5 g 0 bs.length cap bs rfl (fun i hi => by rw [Nat.zero_add]; exact By.Own.cell h i _ (By.ints_get bs i hi)) 9 Try.underlying9
theorem encL_step {l : List Ty} {j : Nat} (h : j < l.length) (n : Int) : (n :: encL (l.take (j + 1))) = (n :: encL (l.take j)) ++ encT (l.getD j Ty.zero) := by
  have : l.take (j + 1) = l.take j ++ [l.getD j Ty.zero] := by
    rw [List.take_add_one, List.getD_eq_getElem?_getD, List.getElem?_eq_getElem h]
    rfl
  rw [this, encL_append]
  show n :: (encL (l.take j) ++ (encT _ ++ [])) = _
  rw [List.append_nil]
  rfl
theorem fit_words {x : Ty} (h : x.fit) : 0 ≤ x.wd ∧ x.wd ≤ 64 := by
  have := h.1
  omega
theorem lit_own (w : World) (n : Int) : By.Own (w.alloc (.cells #[.int .u8 n] 5)) (.slice (some ⟨w.heap.size, 0, none⟩) 1 1) [n] := World.ownsRow_lit w #[.int .u8 n] 1 (Nat.zero_le _) (by decide) rfl
theorem getD_mem {l : List Ty} {j : Nat} (h : j < l.length) : l.getD j Ty.zero ∈ l := by
  rw [List.getD_eq_getElem?_getD, List.getElem?_eq_getElem h]
  exact List.getElem_mem h
set_option maxRecDepth 100000 in
theorem put_nil (w : World) : Calls Try.prog 13 #[.pointer none] w fun e w' => e = .returned (.string ⟨#[]⟩) ∧ Kept [] w w' := by
  go_enter Try.func13, Try.ntmps13
  go_wp2_with fail
  go_ret
  exact ⟨rfl, Kept.refl [] w⟩
set_option maxRecDepth 100000 in
set_option maxHeartbeats 4000000 in
theorem put_ok {w : World} {p : Nat} {A : Option Addr} {c : Nat} {l : List Ty} (h : Tab w p A c l) :
    Calls Try.prog 13 #[.pointer (some ⟨p, 0, none⟩)] w fun e w' => e = .returned (.string (strOfNums (enc l))) ∧ Kept [] w w' := by
  have HC := Lib.hid (count_ok h)
  have HLi := Lib.hid (fun y (k : Kept [] w y) => list_ok (h.keep0 k))
  have hlen := h.len
  have HA := Lib.hid h.all
  have hu8 := u8_id (l.length : Int) (by omega) (by omega)
  clear h
  go_enter Try.func13, Try.ntmps13
  go_wp2_with fail
  refine HC.out.mono ?_
  rintro e w1 ⟨rfl, hk1⟩
  have HK1 := Lib.hid hk1
  clear hk1 HC
  have HO0 := Lib.hid (lit_own w1 (l.length : Int))
  have HK2 := Lib.hid (HK1.out.alloc (.cells #[.int .u8 (l.length : Int)] 5))
  go_wp2_with fail
  refine (HLi.out _ HK2.out).mono ?_
  rintro e w2 ⟨A', c', rfl, hO, hF, hn, hk⟩
  have HBle : Hid (w.heap.size ≤ w1.heap.size) := Lib.hid HK1.out.more
  have hW : Hid (w1.heap.size < (w1.alloc (.cells #[.int .u8 (l.length : Int)] 5)).heap.size) := Lib.hid (by rw [World.size_alloc]; exact Nat.lt_succ_self _)
  generalize w1.alloc (.cells #[.int .u8 (l.length : Int)] 5) = W at *
  generalize hB : w1.heap.size = B at *
  have HO := Lib.hid (HO0.out.keep0 hk)
  have HK3 := Lib.hid (HK2.out.trans hk)
  have HL : Hid (∀ s wr bs, Grew w2 (.slice (some ⟨B, 0, none⟩) 1 1) bs s wr → Own wr (.slice A' l.length c') l) := Lib.hid fun s wr bs hg => hO.kept hg.2.1 fun g hg e => by
    obtain rfl : g = B := by simpa [Value.ownBlock] using hg
    rcases hF with hF | ⟨b, hF, hb⟩
    · rw [hF] at e; cases e
    · rw [hF] at e
      injection e with e
      have := hW.out
      omega
  clear hO hF hn hk HO0 HK2 HLi HK1
  go_wp2_with fail
  go_loopw [3, 19] (fun s t wr => ∃ j : Nat, t = .int .i64 (j : Int) ∧ j ≤ l.length ∧ Hid (Grew w2 (.slice (some ⟨B, 0, none⟩) 1 1) ((l.length : Int) :: encL (l.take j)) s wr)) (fun _ t _ => l.length - (intOf t).toNat)
  case atStart => exact ⟨0, rfl, Nat.zero_le _, Lib.hid (Grew.refl HO.out)⟩
  case round =>
    obtain ⟨j, rfl, hj, hr⟩ := hrel
    clear HO
    by_cases hlt : j < l.length
    · obtain ⟨g, f, rfl, hg, hcells⟩ := (HL.out _ _ _ hr.out).seen.at j hlt _ rfl
      obtain ⟨c0, c1, c2⟩ := hcells _ (Kept.refl [] wr)
      have hx := HA.out _ (getD_mem hlt)
      have hstep := Lib.hid (encL_step hlt (l.length : Int))
      have hbl : ((l.length : Int) :: encL (l.take j)).length ≤ 1000000 := by
        rw [List.length_cons, encL_length, List.length_take]
        omega
      generalize hX : l.getD j Ty.zero = x at *
      generalize hL : (l.length : Int) :: encL (l.take j) = bs at *
      have HAp := Lib.hid (fun y (k : Kept [] wr y) => appendType_ok (hr.out.1.keep0 k) x ⟨(fit_words hx.2).1, by have := (fit_words hx.2).2; omega⟩ hx.1.2 hbl)
      unfold Ty.val at HAp
      clear hcells hg hx hbl hX hL
      go_wp2_with fail
      refine (HAp.out _ ((Kept.refl [] wr).alloc _)).mono ?_
      rintro e w3 ⟨v', rfl, hgr⟩
      have HN : Hid (Grew w2 (.slice (some ⟨B, 0, none⟩) 1 1) ((l.length : Int) :: encL (l.take (j + 1))) v' w3) := Lib.hid (by
        rw [hstep.out]
        exact (hr.out.later ((Kept.refl [] wr).alloc _)).trans hgr)
      clear hgr HAp hstep hr
      go_wp2_with fail
      go_roundw
      case rel => exact ⟨j + 1, by go_num, by omega, HN⟩
      case measure => simp [intOf] <;> omega
    · obtain rfl : j = l.length := by omega
      have HG : Hid (Grew w2 (.slice (some ⟨B, 0, none⟩) 1 1) (enc l) u3 wr) := Lib.hid (by
        have := hr.out
        rw [List.take_length] at this
        exact this)
      have hcv := conv_own HG.out.1
      clear hr
      generalize hS : strOfNums (enc l) = S at *
      have HS := Lib.hid hS
      clear hS
      go_wp2_with fail
      go_ret
      rw [HS.out]
      refine ⟨rfl, HK3.out.forget HG.out.2.1 fun i hi => ?_⟩
      obtain rfl : i = B := by simpa [Value.ownBlock] using hi
      exact HBle.out
end Go.Proofs.Ytkplagnmdjaajaa.Tb
