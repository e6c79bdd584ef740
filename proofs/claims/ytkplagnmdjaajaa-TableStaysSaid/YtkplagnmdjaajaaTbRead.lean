/-
  The contract of Read.
-/
import Derived.Test.YtkplagnmdjaajaaTbTypes
import Derived.Test.YtkplagnmdjaajaaTbNew
namespace Go.Proofs.Ytkplagnmdjaajaa.Tb
open Go.RowKit Go.Proofs.Ytkplagnmdjaajaa.Ar Go.Maps
set_option linter.unusedVariables false

/-- What Read makes of a string: types and an error. -/
def readF (s : ByteArray) : List Ty × Int :=
  if s.size < 1 ∨ s.size ≠ 1 + bt s 0 * 10 then ([], 7) else if (newF [] (tysAt s 1 (bt s 0))).2 = 0 then newF [] (tysAt s 1 (bt s 0)) else ([], 7)
theorem NewPost.before {w w1 w' : World} {r : List Ty × Int} {e : Ending} (k : Kept [] w w1) (h : NewPost w1 r e w') : NewPost w r e w' := by
  rcases h with ⟨h0, p, A, c, rfl, h1, h2, h3, h4⟩ | ⟨h0, rfl, h1⟩
  · exact .inl ⟨h0, p, A, c, rfl, h1, Nat.le_trans k.more h2, fun g hg => Nat.le_trans k.more (h3 g hg), k.trans h4⟩
  · exact .inr ⟨h0, rfl, k.trans h1⟩
theorem bad_post {w w' : World} (k : Kept [] w w') : NewPost w ([], 7) (.returned (.tuple #[.pointer none, .int .i64 7])) w' := .inr ⟨by decide, rfl, k⟩
set_option maxRecDepth 100000 in
set_option maxHeartbeats 4000000 in
theorem read_ok (s : ByteArray) (hmax : s.size ≤ maxLen) (w : World) : Calls Try.prog 21 #[.string s] w (NewPost w (readF s)) := by
  unfold maxLen at hmax
  by_cases h0 : s.size < 1
  · have e : readF s = ([], 7) := if_pos (.inl h0)
    rw [e]
    have hlt : (s.size : Int) < 1 := by omega
    clear e h0
    go_enter Try.func21, Try.ntmps21
    go_wp2_with fail
    go_ret2
    exact bad_post (Kept.refl [] w)
  · have hb := bt_get s
    have hlt : ¬ (s.size : Int) < 1 := by omega
    have hw1 : wrap64 ((bt s 0 : Nat) : Int) = ((bt s 0 : Nat) : Int) := by have := bt_lt s 0; unfold wrap64; omega
    have hb256 := bt_lt s 0
    by_cases h1 : s.size = 1 + bt s 0 * 10
    · have e : readF s = if (newF [] (tysAt s 1 (bt s 0))).2 = 0 then newF [] (tysAt s 1 (bt s 0)) else ([], 7) := if_neg (by omega)
      rw [e]
      have hT := typesOf_ok (s.extract 1 s.size) (bt s 0) (by rw [size_extract]; omega) (by omega)
      rw [tysAt_congr (t := s.extract 1 s.size) (s := s) (o := 0) (q := 1) (n := bt s 0) (fun i => by rw [bt_extract, Nat.zero_add])] at hT
      have hok := tysAt_ok s 1 (bt s 0)
      have hll := tysAt_length s 1 (bt s 0)
      have hne : ((s.size : Int) != 1 + ((bt s 0 : Nat) : Int) * 10) = false := by rw [bne_eq_false_iff_eq]; omega
      have h1le : (1 : Int) ≤ (s.size : Int) := by omega
      generalize tysAt s 1 (bt s 0) = L at *
      rw [h1] at hT
      generalize bt s = f at *
      have HT := Lib.hid hT
      have HOK := Lib.hid hok
      have hL1 : L.length ≤ 1073741824 := by omega
      clear e h0 hT hok hll
      generalize hR : (if (newF [] L).2 = 0 then newF [] L else ([], 7)) = R
      have HR := Lib.hid hR
      clear hR
      go_enter Try.func21, Try.ntmps21
      go_wp2_with fail
      refine (HT.out _).mono ?_
      rintro e w1 ⟨v, rfl, hO, hF, hk⟩
      obtain ⟨A, c, rfl, hbk⟩ := back_own hk hO
      have HNw := Lib.hid (new_ok c hbk.2.1 HOK.out hL1)
      have HK := Lib.hid hk
      clear hO hF hk hbk HT
      go_wp2_with fail
      refine HNw.out.mono ?_
      rintro e w2 hp
      rcases hp with ⟨e0, p, A', c', rfl, hm⟩ | ⟨e0, rfl, hk2⟩
      · have HP : Hid (NewPost w R (.returned (.tuple #[.pointer (some ⟨p, 0, none⟩), .int .i64 0])) w2) := Lib.hid (by
          rw [← HR.out, if_pos e0]
          exact NewPost.before HK.out (.inl ⟨e0, p, A', c', rfl, hm⟩))
        clear HNw e0 hm
        go_wp2_with fail
        go_ret2
        exact HP.out
      · have HP : Hid (NewPost w R (.returned (.tuple #[.pointer none, .int .i64 7])) w2) := Lib.hid (by
          rw [← HR.out, if_neg e0]
          exact bad_post (HK.out.trans hk2))
        have hbn : ((newF [] L).2 != 0) = true := by rw [bne_iff_ne]; exact e0
        generalize (newF [] L).2 = er at *
        clear HNw e0 hk2
        go_wp2_with fail
        go_ret2
        exact HP.out
    · have e : readF s = ([], 7) := if_pos (.inr h1)
      rw [e]
      have hne : ((s.size : Int) != 1 + ((bt s 0 : Nat) : Int) * 10) = true := by rw [bne_iff_ne]; omega
      generalize bt s = f at *
      clear e h0 h1
      go_enter Try.func21, Try.ntmps21
      go_wp2_with fail
      go_ret2
      exact bad_post (Kept.refl [] w)
end Go.Proofs.Ytkplagnmdjaajaa.Tb
