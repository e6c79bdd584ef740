/-
  Several texts in one: TbNew, TbDoc.
-/
import Derived.Test.YtdfnphgjjodfoaaGreatDoorG10
import Derived.Test.YtdfnphgjjodfoaaGreatDoorG40
/-
  The contract of New.
-/
namespace Go.Proofs.YtdfnphgjjodfoaaGreatDoor.Tb
open Go.RowKit Go.Proofs.YtdfnphgjjodfoaaGreatDoor.Ar Go.Maps
set_option linter.unusedVariables false

/-- Types added one by one, until one is refused. -/
def newF (acc : List Ty) : List Ty → List Ty × Int
  | [] => (acc, 0)
  | x :: l => if addE acc x = 0 then newF (acc ++ [x]) l else ([], addE acc x)
theorem drop_get {l : List Ty} {j : Nat} (h : j < l.length) : l.drop j = l.getD j Ty.zero :: l.drop (j + 1) := by
  rw [List.drop_eq_getElem_cons h, List.getD_eq_getElem?_getD, List.getElem?_eq_getElem h]
  rfl
theorem take_get {l : List Ty} {j : Nat} (h : j < l.length) : l.take (j + 1) = l.take j ++ [l.getD j Ty.zero] := by
  rw [List.take_add_one, List.getD_eq_getElem?_getD, List.getElem?_eq_getElem h]
  rfl
theorem newF_step {l : List Ty} {j : Nat} (h : j < l.length) (he : addE (l.take j) (l.getD j Ty.zero) = 0) : newF (l.take j) (l.drop j) = newF (l.take (j + 1)) (l.drop (j + 1)) := by
  rw [drop_get h, take_get h]
  show (if _ then _ else _) = _
  rw [if_pos he]
theorem newF_stop {l : List Ty} {j : Nat} (h : j < l.length) (he : ¬ addE (l.take j) (l.getD j Ty.zero) = 0) : newF (l.take j) (l.drop j) = ([], addE (l.take j) (l.getD j Ty.zero)) := by
  rw [drop_get h]
  show (if _ then _ else _) = _
  rw [if_neg he]
theorem newF_all {l : List Ty} : newF (l.take l.length) (l.drop l.length) = (l, 0) := by
  rw [List.take_length, List.drop_length]
  rfl
theorem getD_ok {l : List Ty} (h : ∀ x ∈ l, x.ok) {j : Nat} (hj : j < l.length) : (l.getD j Ty.zero).ok := by
  rw [List.getD_eq_getElem?_getD, List.getElem?_eq_getElem hj]
  exact h _ (List.getElem_mem hj)
/-- A table of the call's own making: what New, Read and Copy hand back. -/
def Made (w w' : World) (p : Nat) (A : Option Addr) (c : Nat) (l : List Ty) : Prop := Tab w' p A c l ∧ w.heap.size ≤ p ∧ (∀ g ∈ blk A, w.heap.size ≤ g) ∧ Kept [] w w'
def NewPost (w : World) (r : List Ty × Int) (e : Ending) (w' : World) : Prop :=
  (r.2 = 0 ∧ ∃ p A c, e = .returned (.tuple #[.pointer (some ⟨p, 0, none⟩), .int .i64 0]) ∧ Made w w' p A c r.1) ∨ (r.2 ≠ 0 ∧ e = .returned (.tuple #[.pointer none, .int .i64 r.2]) ∧ Kept [] w w')
theorem Made.later {w w' w2 : World} {p : Nat} {A : Option Addr} {c : Nat} {l : List Ty} (h : Made w w' p A c l) (k : Kept [] w' w2) : Made w w2 p A c l := ⟨h.1.keep0 k, h.2.1, h.2.2.1, h.2.2.2.trans k⟩
theorem Made.added {w w' w2 : World} {p : Nat} {A : Option Addr} {c : Nat} {l : List Ty} {x : Ty} {e : Ending} (h : Made w w' p A c l) (k : AddPost w' p A l x e w2) :
    ∃ A' c', e = .returned (.tuple #[.int .i64 (addN l x), .int .i64 (addE l x)]) ∧ Made w w2 p A' c' (addL l x) := by
  obtain ⟨A', c', rfl, h1, h2, h3⟩ := k
  refine ⟨A', c', rfl, h1, h.2.1, fun g hg => (h3 g hg).elim (h.2.2.1 g) fun hh => Nat.le_trans h.2.2.2.more hh, h.2.2.2.forget h2 fun i hi => ?_⟩
  rcases List.mem_cons.1 hi with rfl | hi
  · exact h.2.1
  · exact h.2.2.1 i hi
set_option maxRecDepth 100000 in
set_option maxHeartbeats 4000000 in
theorem new_ok {w : World} {A : Option Addr} {l : List Ty} (c : Nat) (hS : Seen w A l) (hok : ∀ x ∈ l, x.ok) (hlen : l.length ≤ 1073741824) :
    Calls Tryz.prog 50 #[.slice A l.length c] w (NewPost w (newF [] l)) := by
  have hT : Tab (w.alloc (.cells #[.slice none 0 0] 133)) w.heap.size none 0 [] := ⟨Has.new w _ _, Own.nil _, ⟨fun _ => rfl, fun _ => rfl⟩, by decide, fun x hx => by cases hx⟩
  have hM : Made w (w.alloc (.cells #[.slice none 0 0] 133)) w.heap.size none 0 [] := ⟨hT, Nat.le_refl _, (fun g hg => by cases hg), (Kept.refl [] w).alloc _⟩
  have HM := Lib.hid hM
  have HN : Hid (newF [] l = newF (l.take 0) (l.drop 0)) := Lib.hid rfl
  have HS := Lib.hid hS
  have HOK := Lib.hid hok
  clear hT hM hS hok
  go_enter Tryz.func50, Tryz.ntmps50
  go_wp2_with fail
  generalize w.alloc (.cells #[.slice none 0 0] 133) = W at *
  generalize hP : w.heap.size = P at *
  go_loopw [13] (fun t wr => ∃ j : Nat, t = .int .i64 (j : Int) ∧ j ≤ l.length ∧ ∃ A' c', Hid (Made w wr P A' c' (l.take j)) ∧ Hid (newF [] l = newF (l.take j) (l.drop j))) (fun t _ => l.length - (intOf t).toNat)
  case atStart => exact ⟨0, rfl, Nat.zero_le _, none, 0, HM, HN⟩
  case round =>
    obtain ⟨j, rfl, hj, A', c', hm, hn⟩ := hrel
    clear HM HN
    by_cases hlt : j < l.length
    · obtain ⟨g, f, rfl, hg, hcells⟩ := HS.out.at j hlt _ rfl
      obtain ⟨c0, c1, c2⟩ := hcells _ hm.out.2.2.2
      have HA := Lib.hid (fun y (k : Kept [] wr y) => add_ok (hm.out.1.keep0 k) (l.getD j Ty.zero) (getD_ok HOK.out hlt))
      unfold Ty.val at HA
      have HX := Lib.hid (rfl : l.getD j Ty.zero = l.getD j Ty.zero)
      generalize hx : l.getD j Ty.zero = x at HX HA c0 c1 c2
      have HX2 := Lib.hid hx
      clear hx HX hcells
      go_wp2_with fail
      refine (HA.out _ ((Kept.refl [] wr).alloc _)).mono ?_
      rintro e w1 hap
      obtain ⟨A1, c1', rfl, hm1⟩ := (hm.out.later ((Kept.refl [] wr).alloc _)).added hap
      have HM1 := Lib.hid hm1
      clear hap hm1 HA
      by_cases he : addE (l.take j) x = 0
      · have HN1 : Hid (newF [] l = newF (l.take (j + 1)) (l.drop (j + 1))) := Lib.hid (hn.out.trans (newF_step hlt (by rw [HX2.out]; exact he)))
        have HL1 : Hid (addL (l.take j) x = l.take (j + 1)) := Lib.hid (by unfold addL; rw [if_pos he, take_get hlt, HX2.out])
        have HM2 := Lib.hid (HL1.out ▸ HM1.out)
        rw [he]
        clear he hn HL1 HM1
        go_wp2_with fail
        go_roundw
        case rel => exact ⟨j + 1, by go_num, by omega, _, _, HM2, HN1⟩
        case measure => simp [intOf] <;> omega
      · have HN1 : Hid (newF [] l = ([], addE (l.take j) x)) := Lib.hid (hn.out.trans (by rw [newF_stop hlt (by rw [HX2.out]; exact he), HX2.out]))
        have hb : (addE (l.take j) x != 0) = true := by rw [bne_iff_ne]; exact he
        have HE := Lib.hid he
        clear he hn
        generalize addE (l.take j) x = er at *
        go_wp2_with fail
        go_ret2
        refine .inr ?_
        rw [HN1.out]
        exact ⟨HE.out, rfl, HM1.out.2.2.2⟩
    · obtain rfl : j = l.length := by omega
      have HN1 : Hid (newF [] l = (l, 0)) := Lib.hid (hn.out.trans newF_all)
      have HM1 : Hid (Made w wr P A' c' l) := Lib.hid (by have := hm.out; rwa [List.take_length] at this)
      clear hn hm
      go_wp2_with fail
      go_ret2
      refine .inl ?_
      rw [HN1.out]
      exact ⟨rfl, _, _, _, rfl, HM1.out⟩
end Go.Proofs.YtdfnphgjjodfoaaGreatDoor.Tb

/-
  The document's Add, New, Get, Size.
-/
namespace Go.Proofs.YtdfnphgjjodfoaaGreatDoor.Tb
open Go.RowKit Go.Proofs.YtdfnphgjjodfoaaGreatDoor.Ar Go.Maps
set_option linter.unusedVariables false

section
variable {w : World} {A : Option Addr} {c : Nat} {l : List Ty}
theorem Back.before {w w1 w' : World} (h : Back w1 w' A c l) (k : Kept [] w w1) : Back w w' A c l := ⟨h.1, h.2.1, k.trans h.2.2⟩
theorem Back.later {w w1 w' : World} (h : Back w w1 A c l) (k : Kept [] w1 w') : Back w w' A c l := ⟨h.1, h.2.1.keep0 k, h.2.2.trans k⟩
theorem Fresh.before {w w1 : World} {v : Value} (h : Fresh w1 v) (k : Kept [] w w1) : Fresh w v := h.imp id fun ⟨b, hb, hl⟩ => ⟨b, hb, Nat.le_trans k.more hl⟩
/-- What New and Read hand back: a row and an error. -/
def RowPost (w : World) (r : List Ty × Int) (e : Ending) (w' : World) : Prop := ∃ A' c', e = .returned (.tuple #[.slice A' r.1.length c', .int .i64 r.2]) ∧ Back w w' A' c' r.1 ∧ ∀ g ∈ blk A', w.heap.size ≤ g
theorem newF_len {l : List Ty} (acc : List Ty) : (newF acc l).2 = 0 → newF acc l = (acc ++ l, 0) := by
  induction l generalizing acc with
  | nil => intro _; show (acc, 0) = _; rw [List.append_nil]
  | cons x l ih =>
    intro h
    by_cases he : addE acc x = 0
    · have e : newF acc (x :: l) = newF (acc ++ [x]) l := if_pos he
      rw [e] at h ⊢
      rw [ih _ h, List.append_assoc]
      rfl
    · have e : newF acc (x :: l) = ([], addE acc x) := if_neg he
      rw [e] at h
      exact absurd h he
end
end Go.Proofs.YtdfnphgjjodfoaaGreatDoor.Tb
