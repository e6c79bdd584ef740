/-
  The document's Add, New, Get, Size.
-/
import Derived.Test.YtflcnpmampaamaaDoorTbNew
import Derived.Test.YtflcnpmampaamaaDoorKdDocSize
namespace Go.Proofs.YtflcnpmampaamaaDoor.Tb
open Go.RowKit Go.Proofs.YtflcnpmampaamaaDoor.Ar Go.Maps
set_option linter.unusedVariables false

section
variable {w : World} {A : Option Addr} {c : Nat} {l : List Ty}
theorem Back.before {w w1 w' : World} (h : Back w1 w' A c l) (k : Kept [] w w1) : Back w w' A c l := ⟨h.1, h.2.1, k.trans h.2.2⟩
theorem Back.later {w w1 w' : World} (h : Back w w1 A c l) (k : Kept [] w1 w') : Back w w' A c l := ⟨h.1, h.2.1.keep0 k, h.2.2.trans k⟩
def DAddPost (w : World) (A : Option Addr) (l : List Ty) (x : Ty) (e : Ending) (w' : World) : Prop :=
  ∃ A' c', e = .returned (.tuple #[.slice A' (addL l x).length c', .int .i64 (addN l x), .int .i64 (addE l x)]) ∧ Back w w' A' c' (addL l x) ∧ ((∀ g ∈ blk A', w.heap.size ≤ g) ∨ (A' = A ∧ addL l x = l))
theorem fresh_blk {w : World} {A : Option Addr} {n c : Nat} (h : Fresh w (.slice A n c)) : ∀ g ∈ blk A, w.heap.size ≤ g := fun g hg => by
  rcases h with h | ⟨b, h, hb⟩
  · rw [own_blk A n c g hg] at h; cases h
  · rw [own_blk A n c g hg] at h; injection h with h; omega
theorem Fresh.before {w w1 : World} {v : Value} (h : Fresh w1 v) (k : Kept [] w w1) : Fresh w v := h.imp id fun ⟨b, hb, hl⟩ => ⟨b, hb, Nat.le_trans k.more hl⟩
set_option maxRecDepth 100000 in
set_option maxHeartbeats 1000000 in
theorem dadd_ok (hn : A = none → c = 0) (hS : Seen w A l) (x : Ty) (hx : x.ok) (hlen : l.length ≤ 100000) :
    Calls Tryd.prog 28 #[.slice A l.length c, x.val] w (DAddPost w A l x) := by
  have HM := Lib.hid (fun y => Kd.may_ok x.k x.wd x.ms hx.2 y)
  unfold Kd.typV at HM
  have hk0 : Kept [] w (w.alloc (.cells #[.int .u8 (x.k : Int), .int .i64 x.wd, .int .u64 (x.ms : Int)] 58)) := (Kept.refl [] w).alloc _
  have hb0 : Has (w.alloc (.cells #[.int .u8 (x.k : Int), .int .i64 x.wd, .int .u64 (x.ms : Int)] 58)) w.heap.size 58 [.int .u8 (x.k : Int), .int .i64 x.wd, .int .u64 (x.ms : Int)] := Has.new w _ _
  unfold Ty.val
  by_cases hf : x.fit
  · have hfd : decide (Kd.may x.k x.wd x.ms) = true := decide_eq_true hf
    rw [hfd] at HM
    by_cases hl : 64 ≤ l.length
    · have e0 : addE l x = 4 := by unfold addE; rw [if_neg (by simpa using hf), if_pos hl]
      have HP : Hid (∀ y, Kept [] w y → DAddPost w A l x (.returned (.tuple #[.slice A l.length c, .int .i64 0, .int .i64 4])) y) := Lib.hid fun y k => by
        have e1 : addL l x = l := by unfold addL; rw [e0, if_neg (by decide)]
        refine ⟨A, c, ?_, ?_, .inr ⟨rfl, e1⟩⟩
        · unfold addN
          rw [e0, if_neg (by decide), e1]
        · rw [e1]
          exact ⟨hn, hS.keep0 k, k⟩
      have hl2 : (64 : Int) ≤ (l.length : Int) := by omega
      clear e0 hf hx hl hS hn hfd
      go_enter Tryd.func28, Tryd.ntmps28
      go_wp2_with fail
      refine (HM.out _).mono ?_
      rintro e w1 ⟨rfl, hk1⟩
      have HK := Lib.hid (hk0.trans hk1)
      clear hk1 hk0 hb0 HM
      go_wp2_with fail
      go_ret3
      exact HP.out _ HK.out
    · have e0 : addE l x = 0 := by unfold addE; rw [if_neg (by simpa using hf), if_neg hl]
      have e1 : addL l x = l ++ [x] := by unfold addL; rw [e0, if_pos rfl]
      have HP : Hid (∀ y v, Own y v (l ++ [x]) → Fresh w v → Kept [] w y → ∃ A' c', v = .slice A' (l.length + 1) c' ∧ DAddPost w A l x (.returned (.tuple #[.slice A' (l.length + 1) c', .int .i64 ((l.length : Int) + 1), .int .i64 0])) y) := Lib.hid fun y v hO hF k => by
        obtain ⟨A', c', e2, hb⟩ := back_own k hO
        have e3 : (l ++ [x]).length = l.length + 1 := by rw [List.length_append]; rfl
        refine ⟨A', c', by rw [e2, e3], A', c', ?_, by rw [e1]; exact hb, .inl (fresh_blk (by rw [e2] at hF; exact hF))⟩
        unfold addN
        rw [e0, if_pos rfl, e1, e3]
      have hl2 : ¬ (64 : Int) ≤ (l.length : Int) := by omega
      have HS := Lib.hid hS
      clear e0 e1 hf hx hl hfd hS
      go_enter Tryd.func28, Tryd.ntmps28
      go_wp2_with fail
      refine (HM.out _).mono ?_
      rintro e w1 ⟨rfl, hk1⟩
      have HK := Lib.hid (hk0.trans hk1)
      obtain ⟨b0, b1, b2⟩ := cells3 (hb0.keep0 hk1)
      have HB := Lib.hid (hb0.keep0 hk1)
      clear hk1 hk0 hb0 HM
      go_wp2_with (at_builtin; (refine append_types rfl (.const (.slice none 0 0)) (.tmp 16) rfl (.slice none 0 0) [] rfl (Own.nil _) A c l rfl hn (HS.out.keep0 HK.out) (by simp only [List.length_nil]; omega) ?_))
      intro s2 w2 hO2 hG2 hB2 hn2
      have hK2 := own_grown (Kept.refl [] w1) (.inl rfl) hG2
      have hF2 : Fresh w1 s2 := own_fresh (Kept.refl [] w1) (.inl rfl) hB2
      have HBB := Lib.hid (HB.out.keep0 hK2)
      have HO2 := Lib.hid hO2
      have HK2 := Lib.hid hK2
      have HF2 := Lib.hid hF2
      clear hO2 hG2 hB2 hn2 hK2 hF2 b0 b1 b2 HB
      obtain ⟨b0, b1, b2⟩ := cells3 HBB.out
      have HSe : Hid (Seen (w2.alloc (.cells #[.int .u8 (x.k : Int), .int .i64 x.wd, .int .u64 (x.ms : Int)] 58)) (some ⟨w2.heap.size, 0, none⟩) [x]) := Lib.hid (seen_one (Has.new w2 58 [.int .u8 (x.k : Int), .int .i64 x.wd, .int .u64 (x.ms : Int)]))
      have HO := Lib.hid (HO2.out.keep0 ((Kept.refl [] w2).alloc (.cells #[.int .u8 (x.k : Int), .int .i64 x.wd, .int .u64 (x.ms : Int)] 58)))
      go_wp2_with (at_builtin; (refine append_types rfl (.tmp 18) (.tmp 20) rfl s2 l rfl HO.out (some ⟨w2.heap.size, 0, none⟩) 1 [x] rfl (fun h => by cases h) HSe.out (by simp only [List.length_cons, List.length_nil]; omega) ?_))
      intro s3 w3 hO3 hG3 hB3 hn3
      have hK3 := own_grown (HK2.out.trans ((Kept.refl [] w2).alloc (.cells #[.int .u8 (x.k : Int), .int .i64 x.wd, .int .u64 (x.ms : Int)] 58))) HF2.out hG3
      have hF3 : Fresh w s3 := Fresh.before (own_fresh (HK2.out.trans ((Kept.refl [] w2).alloc (.cells #[.int .u8 (x.k : Int), .int .i64 x.wd, .int .u64 (x.ms : Int)] 58))) HF2.out (by simpa using hB3)) HK.out
      obtain ⟨A', c', rfl, hp⟩ := HP.out _ _ hO3 hF3 (HK.out.trans hK3)
      have HPP := Lib.hid hp
      clear hO3 hG3 hB3 hn3 hK3 hF3 hp HP
      go_wp2_with fail
      go_ret3
      exact HPP.out
  · have e0 : addE l x = 2 := by unfold addE; rw [if_pos hf]
    have hfd : decide (Kd.may x.k x.wd x.ms) = false := decide_eq_false hf
    rw [hfd] at HM
    have HP : Hid (∀ y, Kept [] w y → DAddPost w A l x (.returned (.tuple #[.slice A l.length c, .int .i64 0, .int .i64 2])) y) := Lib.hid fun y k => by
      have e1 : addL l x = l := by unfold addL; rw [e0, if_neg (by decide)]
      refine ⟨A, c, ?_, ?_, .inr ⟨rfl, e1⟩⟩
      · unfold addN
        rw [e0, if_neg (by decide), e1]
      · rw [e1]
        exact ⟨hn, hS.keep0 k, k⟩
    clear e0 hf hx hS hn hfd
    go_enter Tryd.func28, Tryd.ntmps28
    go_wp2_with fail
    refine (HM.out _).mono ?_
    rintro e w1 ⟨rfl, hk1⟩
    have HK := Lib.hid (hk0.trans hk1)
    clear hk1 hk0 hb0 HM
    go_wp2_with fail
    go_ret3
    exact HP.out _ HK.out
/-- What New and Read hand back: a row and an error. -/
def RowPost (w : World) (r : List Ty × Int) (e : Ending) (w' : World) : Prop := ∃ A' c', e = .returned (.tuple #[.slice A' r.1.length c', .int .i64 r.2]) ∧ Back w w' A' c' r.1 ∧ ∀ g ∈ blk A', w.heap.size ≤ g
theorem row_none {w w' : World} {er : Int} (k : Kept [] w w') : RowPost w ([], er) (.returned (.tuple #[.slice none 0 0, .int .i64 er])) w' := ⟨none, 0, rfl, ⟨fun _ => rfl, Seen.nil _ _, k⟩, fun g hg => (by cases hg)⟩
theorem newF_len {l : List Ty} (acc : List Ty) : (newF acc l).2 = 0 → newF acc l = (acc ++ l, 0) := by
  induction l generalizing acc with
  | nil => intro _; show (acc, 0) = _; rw [List.append_nil]
  | cons x l ih =>
    intro h
    by_cases he : addE acc x = 0
    · have e : newF acc (x :: l) = newF (acc ++ [x]) l := if_pos he
      rw [e] at h ⊢
      rw [ih _ h, List.append_assoc]
      rfl
    · have e : newF acc (x :: l) = ([], addE acc x) := if_neg he
      rw [e] at h
      exact absurd h he
set_option maxRecDepth 100000 in
set_option maxHeartbeats 4000000 in
theorem dnew_ok {w : World} {A : Option Addr} {l : List Ty} (c : Nat) (hS : Seen w A l) (hok : ∀ x ∈ l, x.ok) (hlen : l.length ≤ 100000) :
    Calls Tryd.prog 19 #[.slice A l.length c] w (RowPost w (newF [] l)) := by
  have HN : Hid (newF [] l = newF (l.take 0) (l.drop 0)) := Lib.hid rfl
  have HS := Lib.hid hS
  have HOK := Lib.hid hok
  clear hS hok
  go_enter Tryd.func19, Tryd.ntmps19
  go_wp2_with fail
  go_loopw [4, 5] (fun o t wr => ∃ (j m : Nat) (A' : Option Addr) (c' : Nat), o = .slice A' m c' ∧ t = .int .i64 (j : Int) ∧ j ≤ l.length ∧ Hid ((l.take j).length = m ∧ Back w wr A' c' (l.take j) ∧ ∀ g ∈ blk A', w.heap.size ≤ g) ∧ Hid (newF [] l = newF (l.take j) (l.drop j))) (fun _ t _ => l.length - (intOf t).toNat)
  case atStart => exact ⟨0, 0, none, 0, rfl, rfl, Nat.zero_le _, Lib.hid ⟨rfl, ⟨fun _ => rfl, Seen.nil _ _, Kept.refl [] w⟩, fun g hg => (by cases hg)⟩, HN⟩
  case round =>
    obtain ⟨j, m, A', c', rfl, rfl, hj, hm, hn⟩ := hrel
    clear HN
    by_cases hlt : j < l.length
    · obtain ⟨g, f, rfl, hg, hcells⟩ := HS.out.at j hlt _ rfl
      obtain ⟨c0, c1, c2⟩ := hcells _ hm.out.2.1.2.2
      have HA := Lib.hid (dadd_ok hm.out.2.1.1 hm.out.2.1.2.1 (l.getD j Ty.zero) (getD_ok HOK.out hlt) (by rw [List.length_take]; omega))
      rw [hm.out.1] at HA
      unfold Ty.val at HA
      generalize hx : l.getD j Ty.zero = x at HA c0 c1 c2
      have HX2 := Lib.hid hx
      clear hx hcells
      go_wp2_with fail
      refine HA.out.mono ?_
      rintro e w1 ⟨A1, c1', rfl, hb, hfr⟩
      have HB := Lib.hid (And.intro (hb.before hm.out.2.1.2.2) (show ∀ g ∈ blk A1, w.heap.size ≤ g from fun g hg => hfr.elim (fun h => Nat.le_trans hm.out.2.1.2.2.more (h g hg)) fun h => hm.out.2.2 g (by rw [← h.1]; exact hg)))
      clear hb HA hfr
      by_cases he : addE (l.take j) x = 0
      · have HN1 : Hid (newF [] l = newF (l.take (j + 1)) (l.drop (j + 1))) := Lib.hid (hn.out.trans (newF_step hlt (by rw [HX2.out]; exact he)))
        have HL1 : addL (l.take j) x = l.take (j + 1) := by unfold addL; rw [if_pos he, take_get hlt, HX2.out]
        rw [HL1] at HB ⊢
        generalize hM2 : (l.take (j + 1)).length = m2
        have HM2 : Hid ((l.take (j + 1)).length = m2 ∧ Back w w1 A1 c1' (l.take (j + 1)) ∧ ∀ g ∈ blk A1, w.heap.size ≤ g) := Lib.hid ⟨hM2, HB.out⟩
        rw [he]
        clear he hn HL1 HB hM2 hm
        generalize addN (l.take j) x = an
        go_wp2_with fail
        go_roundw
        case rel => exact ⟨j + 1, m2, _, _, rfl, by go_num, by omega, HM2, HN1⟩
        case measure => simp [intOf] <;> omega
      · have HN1 : Hid (newF [] l = ([], addE (l.take j) x)) := Lib.hid (hn.out.trans (by rw [newF_stop hlt (by rw [HX2.out]; exact he), HX2.out]))
        have hb : (addE (l.take j) x != 0) = true := by rw [bne_iff_ne]; exact he
        generalize addE (l.take j) x = er at *
        generalize addN (l.take j) x = an
        generalize (addL (l.take j) x).length = al
        have HK := Lib.hid HB.out.1.2.2
        clear he hn HB hm
        go_wp2_with fail
        go_ret2
        rw [HN1.out]
        exact row_none HK.out
    · obtain rfl : j = l.length := by omega
      have HN1 : Hid (newF [] l = (l, 0)) := Lib.hid (hn.out.trans newF_all)
      have HM1 : Hid (l.length = m ∧ Back w wr A' c' l ∧ ∀ g ∈ blk A', w.heap.size ≤ g) := Lib.hid (by have := hm.out; rwa [List.take_length] at this)
      clear hn hm
      go_wp2_with fail
      go_ret2
      rw [HN1.out]
      exact ⟨A', c', by rw [← HM1.out.1]; rfl, HM1.out.2⟩
end
end Go.Proofs.YtflcnpmampaamaaDoor.Tb
