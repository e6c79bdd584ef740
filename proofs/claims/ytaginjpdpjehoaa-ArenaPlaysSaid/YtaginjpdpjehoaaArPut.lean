/-
  The document's row of words: put, Store, Load, Words, Fill, Move.
-/
import Derived.Test.YtaginjpdpjehoaaArRef
namespace Go.Proofs.Ytaginjpdpjehoaa.Ar
open Go.RowKit

section
variable {p g cap : Nat} {ws : List Int} {n : Int} {w : World}
/-- What put leaves. -/
def Put (w x : World) (p : Nat) (ws : List Int) (n : Int) : Prop := ∃ g cap, w.heap.size ≤ g ∧ Ref x p g cap ws n ∧ Kept [p] w x
theorem put_ends (h : Ref w p g cap ws n) {y : World} {v : Value} {vs : List Int} (hk : Kept [] w y) (hO : Own y v vs) (hv : v.ownBlock = none ∨ ∃ b, v.ownBlock = some b ∧ w.heap.size ≤ b) (hl : vs.length = ws.length) :
    ∃ g' cap', v = .slice (some ⟨g', 0, none⟩) ws.length cap' ∧ p ≠ g' ∧ ∀ m, Put w ((y.setCell ⟨p, 0, none⟩ v).setCell ⟨p, 1, none⟩ (.int .u64 m)) p vs m := by
  have hp := h.some_
  rcases hO.form with ⟨_, h0⟩ | ⟨g', cap', rfl, hlt, hc, hm⟩
  · rw [h0] at hl; simp at hl; omega
  · have hg' : w.heap.size ≤ g' := by
      rcases hv with h | ⟨b, h, hle⟩
      · cases h
      · injection h with h
        rw [show g' = b from h]; exact hle
    have hpl := h.head.lt
    refine ⟨g', cap', by rw [hl], by omega, fun m => ⟨g', cap', hg', ⟨?_, ?_, ?_, hc, hm, by omega, by rw [hl]; exact h.short⟩, ?_⟩⟩
    · rw [hl]
      have e := ((h.head.keep0 hk).put 0 (.slice (some ⟨g', 0, none⟩) ws.length cap')).put 1 (.int .u64 m)
      exact e
    · refine (hO.kept (S := [p]) ((Kept.refl [p] y).setCell ⟨p, 0, none⟩ _ (.inl (by simp))) ?_).kept (S := [p]) ((Kept.refl [p] _).setCell ⟨p, 1, none⟩ _ (.inl (by simp))) ?_
      all_goals
        intro b hb e
        simp at hb
        subst hb
        injection e with e
        have : g' = b := e
        omega
    · simpa [World.setCell] using hlt
    · exact (hk.none [p]).trans (((Kept.refl [p] y).setCell ⟨p, 0, none⟩ _ (.inl (by simp))).setCell ⟨p, 1, none⟩ _ (.inl (by simp)))

set_option maxHeartbeats 800000 in
theorem put_any (h : Ref w p g cap ws n) (i : Nat) (A : Option Addr) (c : Nat) (l : List Int) (hl : i + l.length ≤ ws.length) (hs : Seen w A l) (hnil : A = none → c = 0) :
    Calls Try.prog 31 #[.pointer (some ⟨p, 0, none⟩), .int .i64 i, .slice A l.length c] w fun e w' => e = .returned (.tuple #[]) ∧ Put w w' p (putW ws i l) (addU n l.length) := by
  have c0 := h.c0
  have hsh := h.short
  have hrm := h.room
  have hcl := h.capl
  unfold maxLen at hcl
  have HR := Lib.hid h
  have HS := Lib.hid hs
  have HN := Lib.hid hnil
  have H1 := Lib.hid (show (ws.take i).length = i by rw [List.length_take]; omega)
  have HT := Lib.hid (seen_take h.seen i)
  have HE := Lib.hid (Eq.refl (putW ws i l))
  clear h hs hnil
  go_enter Try.func31, Try.ntmps31
  go_wp2_with (at_builtin; (refine append_words rfl (.const (.slice none 0 0)) (.tmp 12) rfl (.slice none 0 0) [] rfl (Own.nil _) (some ⟨g, 0, none⟩) i cap (ws.take i) rfl H1.out (fun h => by cases h) HT.out (show 0 + i ≤ 1073741824 by omega) ?_))
  intro v1 w1 hO1 hG1 hB1
  have hK1 : Kept [] w w1 := own_grown (Kept.refl [] w) (.inl rfl) hG1
  have hF1 := own_fresh (Kept.refl [] w) (.inl rfl) hB1
  have c1 : w1.cell? ⟨p, 0, none⟩ = some (.slice (some ⟨g, 0, none⟩) ws.length cap) := (HR.out.keep0 hK1).c0
  have HO1 := Lib.hid hO1
  have HK1 := Lib.hid hK1
  have HF1 := Lib.hid hF1
  have HS1 := Lib.hid (HS.out.keep0 hK1)
  clear hO1 hG1 hB1 hK1 hF1 HT HS c0
  go_wp2_with (at_builtin; refine append_words rfl (.tmp 14) (.tmp 15) rfl v1 (ws.take i) rfl HO1.out A l.length c l rfl rfl HN.out HS1.out (by rw [H1.out]; omega) ?_)
  intro v2 w2 hO2 hG2 hB2
  have hK2 : Kept [] w w2 := own_grown HK1.out HF1.out hG2
  have hF2 := own_fresh HK1.out HF1.out hB2
  have c2 : w2.cell? ⟨p, 0, none⟩ = some (.slice (some ⟨g, 0, none⟩) ws.length cap) := (HR.out.keep0 hK2).c0
  have HO2 := Lib.hid hO2
  have HK2 := Lib.hid hK2
  have HF2 := Lib.hid hF2
  clear hO2 hG2 hB2 hK2 hF2 HS1 HO1 HK1 HF1 c1
  rcases Nat.lt_or_ge (i + l.length) cap with hcap | hcap
  · have HS2 := Lib.hid (show Seen w2 (some ⟨g, i + l.length, none⟩) (ws.drop (i + l.length)) by
      have h := seen_rest (HR.out.keep0 HK2.out).seen (i + l.length) cap hl hrm
      rw [if_neg (by omega)] at h
      exact h)
    go_wp2_with (at_builtin; (refine append_words rfl (.tmp 18) (.tmp 27) rfl v2 (ws.take i ++ l) rfl HO2.out (some ⟨g, i + l.length, none⟩) (ws.length - (i + l.length)) (cap - (i + l.length)) (ws.drop (i + l.length)) rfl (by rw [List.length_drop]) (fun h => by cases h) HS2.out (by rw [List.length_append, H1.out]; omega) ?_))
    intro v3 w3 hO3 hG3 hB3
    have hK3 : Kept [] w w3 := own_grown HK2.out HF2.out hG3
    have hF3 := own_fresh HK2.out HF2.out hB3
    have hO4 : Own w3 v3 (putW ws i l) := by unfold putW; first | exact hO3 | (rw [← List.append_assoc]; exact hO3)
    clear hO3
    obtain ⟨g', cap', rfl, hpg, hend⟩ := put_ends HR.out hK3 hO4 hF3 (putW_length ws i l hl)
    have c3 := (HR.out.keep0 hK3).c0
    have c4 := (HR.out.keep0 hK3).c1
    have f3 := (HR.out.keep0 hK3).head.free 0
    have f4 := (HR.out.keep0 hK3).head.free 1
    have HEnd := Lib.hid (hend (addU n l.length))
    clear hO4 hG3 hB3 hK3 hF3 hend HS2 HO2 HK2 HF2 c2 hpg
    go_wp2_with fail
    go_end0
    exact ⟨rfl, HEnd.out⟩
  · obtain rfl : cap = i + l.length := by omega
    have HS2 := Lib.hid (show Seen w2 (some ⟨g, 0, none⟩) (ws.drop (i + l.length)) by
      have h := seen_rest (HR.out.keep0 HK2.out).seen (i + l.length) (i + l.length) hl hrm
      rw [if_pos rfl] at h
      exact h)
    go_wp2_with (at_builtin; (refine append_words rfl (.tmp 18) (.tmp 27) rfl v2 (ws.take i ++ l) rfl HO2.out (some ⟨g, 0, none⟩) (ws.length - (i + l.length)) (i + l.length - (i + l.length)) (ws.drop (i + l.length)) rfl (by rw [List.length_drop]) (fun h => by cases h) HS2.out (by rw [List.length_append, H1.out]; omega) ?_))
    intro v3 w3 hO3 hG3 hB3
    have hK3 : Kept [] w w3 := own_grown HK2.out HF2.out hG3
    have hF3 := own_fresh HK2.out HF2.out hB3
    have hO4 : Own w3 v3 (putW ws i l) := by unfold putW; first | exact hO3 | (rw [← List.append_assoc]; exact hO3)
    clear hO3
    obtain ⟨g', cap', rfl, hpg, hend⟩ := put_ends HR.out hK3 hO4 hF3 (putW_length ws i l hl)
    have c3 := (HR.out.keep0 hK3).c0
    have c4 := (HR.out.keep0 hK3).c1
    have f3 := (HR.out.keep0 hK3).head.free 0
    have f4 := (HR.out.keep0 hK3).head.free 1
    have HEnd := Lib.hid (hend (addU n l.length))
    clear hO4 hG3 hB3 hK3 hF3 hend HS2 HO2 HK2 HF2 c2 hpg
    go_wp2_with fail
    go_end0
    exact ⟨rfl, HEnd.out⟩
end
end Go.Proofs.Ytaginjpdpjehoaa.Ar
