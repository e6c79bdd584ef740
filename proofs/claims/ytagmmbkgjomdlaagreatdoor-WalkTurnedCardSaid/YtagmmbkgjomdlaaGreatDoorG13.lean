/-
  Several texts in one: TbNew, TbDoc, TbDoc2, HdOf.
-/
import Derived.Test.YtagmmbkgjomdlaaGreatDoorG09
import Derived.Test.YtagmmbkgjomdlaaGreatDoorG32
import Derived.Test.YtagmmbkgjomdlaaGreatDoorG29
import Derived.Test.YtagmmbkgjomdlaaGreatDoorG12
/-
  The contract of New.
-/
namespace Go.Proofs.YtagmmbkgjomdlaaGreatDoor.Tb
open Go.RowKit Go.Proofs.YtagmmbkgjomdlaaGreatDoor.Ar Go.Maps
set_option linter.unusedVariables false

/-- Types added one by one, until one is refused. -/
def newF (acc : List Ty) : List Ty → List Ty × Int
  | [] => (acc, 0)
  | x :: l => if addE acc x = 0 then newF (acc ++ [x]) l else ([], addE acc x)
theorem drop_get {l : List Ty} {j : Nat} (h : j < l.length) : l.drop j = l.getD j Ty.zero :: l.drop (j + 1) := by
  rw [List.drop_eq_getElem_cons h, List.getD_eq_getElem?_getD, List.getElem?_eq_getElem h]
  rfl
theorem take_get {l : List Ty} {j : Nat} (h : j < l.length) : l.take (j + 1) = l.take j ++ [l.getD j Ty.zero] := by
  rw [List.take_add_one, List.getD_eq_getElem?_getD, List.getElem?_eq_getElem h]
  rfl
theorem newF_step {l : List Ty} {j : Nat} (h : j < l.length) (he : addE (l.take j) (l.getD j Ty.zero) = 0) : newF (l.take j) (l.drop j) = newF (l.take (j + 1)) (l.drop (j + 1)) := by
  rw [drop_get h, take_get h]
  show (if _ then _ else _) = _
  rw [if_pos he]
theorem newF_stop {l : List Ty} {j : Nat} (h : j < l.length) (he : ¬ addE (l.take j) (l.getD j Ty.zero) = 0) : newF (l.take j) (l.drop j) = ([], addE (l.take j) (l.getD j Ty.zero)) := by
  rw [drop_get h]
  show (if _ then _ else _) = _
  rw [if_neg he]
theorem newF_all {l : List Ty} : newF (l.take l.length) (l.drop l.length) = (l, 0) := by
  rw [List.take_length, List.drop_length]
  rfl
theorem getD_ok {l : List Ty} (h : ∀ x ∈ l, x.ok) {j : Nat} (hj : j < l.length) : (l.getD j Ty.zero).ok := by
  rw [List.getD_eq_getElem?_getD, List.getElem?_eq_getElem hj]
  exact h _ (List.getElem_mem hj)
/-- A table of the call's own making: what New, Read and Copy hand back. -/
def Made (w w' : World) (p : Nat) (A : Option Addr) (c : Nat) (l : List Ty) : Prop := Tab w' p A c l ∧ w.heap.size ≤ p ∧ (∀ g ∈ blk A, w.heap.size ≤ g) ∧ Kept [] w w'
def NewPost (w : World) (r : List Ty × Int) (e : Ending) (w' : World) : Prop :=
  (r.2 = 0 ∧ ∃ p A c, e = .returned (.tuple #[.pointer (some ⟨p, 0, none⟩), .int .i64 0]) ∧ Made w w' p A c r.1) ∨ (r.2 ≠ 0 ∧ e = .returned (.tuple #[.pointer none, .int .i64 r.2]) ∧ Kept [] w w')
theorem Made.later {w w' w2 : World} {p : Nat} {A : Option Addr} {c : Nat} {l : List Ty} (h : Made w w' p A c l) (k : Kept [] w' w2) : Made w w2 p A c l := ⟨h.1.keep0 k, h.2.1, h.2.2.1, h.2.2.2.trans k⟩
theorem Made.added {w w' w2 : World} {p : Nat} {A : Option Addr} {c : Nat} {l : List Ty} {x : Ty} {e : Ending} (h : Made w w' p A c l) (k : AddPost w' p A l x e w2) :
    ∃ A' c', e = .returned (.tuple #[.int .i64 (addN l x), .int .i64 (addE l x)]) ∧ Made w w2 p A' c' (addL l x) := by
  obtain ⟨A', c', rfl, h1, h2, h3⟩ := k
  refine ⟨A', c', rfl, h1, h.2.1, fun g hg => (h3 g hg).elim (h.2.2.1 g) fun hh => Nat.le_trans h.2.2.2.more hh, h.2.2.2.forget h2 fun i hi => ?_⟩
  rcases List.mem_cons.1 hi with rfl | hi
  · exact h.2.1
  · exact h.2.2.1 i hi
set_option maxRecDepth 100000 in
set_option maxHeartbeats 4000000 in
theorem new_ok {w : World} {A : Option Addr} {l : List Ty} (c : Nat) (hS : Seen w A l) (hok : ∀ x ∈ l, x.ok) (hlen : l.length ≤ 1073741824) :
    Calls Tryz.prog 37 #[.slice A l.length c] w (NewPost w (newF [] l)) := by
  have hT : Tab (w.alloc (.cells #[.slice none 0 0] 156)) w.heap.size none 0 [] := ⟨Has.new w _ _, Own.nil _, ⟨fun _ => rfl, fun _ => rfl⟩, by decide, fun x hx => by cases hx⟩
  have hM : Made w (w.alloc (.cells #[.slice none 0 0] 156)) w.heap.size none 0 [] := ⟨hT, Nat.le_refl _, (fun g hg => by cases hg), (Kept.refl [] w).alloc _⟩
  have HM := Lib.hid hM
  have HN : Hid (newF [] l = newF (l.take 0) (l.drop 0)) := Lib.hid rfl
  have HS := Lib.hid hS
  have HOK := Lib.hid hok
  clear hT hM hS hok
  go_enter Tryz.func37, Tryz.ntmps37
  go_wp2_with fail
  generalize w.alloc (.cells #[.slice none 0 0] 156) = W at *
  generalize hP : w.heap.size = P at *
  go_loopw [13] (fun t wr => ∃ j : Nat, t = .int .i64 (j : Int) ∧ j ≤ l.length ∧ ∃ A' c', Hid (Made w wr P A' c' (l.take j)) ∧ Hid (newF [] l = newF (l.take j) (l.drop j))) (fun t _ => l.length - (intOf t).toNat)
  case atStart => exact ⟨0, rfl, Nat.zero_le _, none, 0, HM, HN⟩
  case round =>
    obtain ⟨j, rfl, hj, A', c', hm, hn⟩ := hrel
    clear HM HN
    by_cases hlt : j < l.length
    · obtain ⟨g, f, rfl, hg, hcells⟩ := HS.out.at j hlt _ rfl
      obtain ⟨c0, c1, c2⟩ := hcells _ hm.out.2.2.2
      have HA := Lib.hid (fun y (k : Kept [] wr y) => add_ok (hm.out.1.keep0 k) (l.getD j Ty.zero) (getD_ok HOK.out hlt))
      unfold Ty.val at HA
      have HX := Lib.hid (rfl : l.getD j Ty.zero = l.getD j Ty.zero)
      generalize hx : l.getD j Ty.zero = x at HX HA c0 c1 c2
      have HX2 := Lib.hid hx
      clear hx HX hcells
      go_wp2_with fail
      refine (HA.out _ ((Kept.refl [] wr).alloc _)).mono ?_
      rintro e w1 hap
      obtain ⟨A1, c1', rfl, hm1⟩ := (hm.out.later ((Kept.refl [] wr).alloc _)).added hap
      have HM1 := Lib.hid hm1
      clear hap hm1 HA
      by_cases he : addE (l.take j) x = 0
      · have HN1 : Hid (newF [] l = newF (l.take (j + 1)) (l.drop (j + 1))) := Lib.hid (hn.out.trans (newF_step hlt (by rw [HX2.out]; exact he)))
        have HL1 : Hid (addL (l.take j) x = l.take (j + 1)) := Lib.hid (by unfold addL; rw [if_pos he, take_get hlt, HX2.out])
        have HM2 := Lib.hid (HL1.out ▸ HM1.out)
        rw [he]
        clear he hn HL1 HM1
        go_wp2_with fail
        go_roundw
        case rel => exact ⟨j + 1, by go_num, by omega, _, _, HM2, HN1⟩
        case measure => simp [intOf] <;> omega
      · have HN1 : Hid (newF [] l = ([], addE (l.take j) x)) := Lib.hid (hn.out.trans (by rw [newF_stop hlt (by rw [HX2.out]; exact he), HX2.out]))
        have hb : (addE (l.take j) x != 0) = true := by rw [bne_iff_ne]; exact he
        have HE := Lib.hid he
        clear he hn
        generalize addE (l.take j) x = er at *
        go_wp2_with fail
        go_ret2
        refine .inr ?_
        rw [HN1.out]
        exact ⟨HE.out, rfl, HM1.out.2.2.2⟩
    · obtain rfl : j = l.length := by omega
      have HN1 : Hid (newF [] l = (l, 0)) := Lib.hid (hn.out.trans newF_all)
      have HM1 : Hid (Made w wr P A' c' l) := Lib.hid (by have := hm.out; rwa [List.take_length] at this)
      clear hn hm
      go_wp2_with fail
      go_ret2
      refine .inl ?_
      rw [HN1.out]
      exact ⟨rfl, _, _, _, rfl, HM1.out⟩
end Go.Proofs.YtagmmbkgjomdlaaGreatDoor.Tb

/-
  The document's Add, New, Get, Size.
-/
namespace Go.Proofs.YtagmmbkgjomdlaaGreatDoor.Tb
open Go.RowKit Go.Proofs.YtagmmbkgjomdlaaGreatDoor.Ar Go.Maps
set_option linter.unusedVariables false

section
variable {w : World} {A : Option Addr} {c : Nat} {l : List Ty}
theorem Back.before {w w1 w' : World} (h : Back w1 w' A c l) (k : Kept [] w w1) : Back w w' A c l := ⟨h.1, h.2.1, k.trans h.2.2⟩
theorem Back.later {w w1 w' : World} (h : Back w w1 A c l) (k : Kept [] w1 w') : Back w w' A c l := ⟨h.1, h.2.1.keep0 k, h.2.2.trans k⟩
theorem Fresh.before {w w1 : World} {v : Value} (h : Fresh w1 v) (k : Kept [] w w1) : Fresh w v := h.imp id fun ⟨b, hb, hl⟩ => ⟨b, hb, Nat.le_trans k.more hl⟩
/-- What New and Read hand back: a row and an error. -/
def RowPost (w : World) (r : List Ty × Int) (e : Ending) (w' : World) : Prop := ∃ A' c', e = .returned (.tuple #[.slice A' r.1.length c', .int .i64 r.2]) ∧ Back w w' A' c' r.1 ∧ ∀ g ∈ blk A', w.heap.size ≤ g
theorem newF_len {l : List Ty} (acc : List Ty) : (newF acc l).2 = 0 → newF acc l = (acc ++ l, 0) := by
  induction l generalizing acc with
  | nil => intro _; show (acc, 0) = _; rw [List.append_nil]
  | cons x l ih =>
    intro h
    by_cases he : addE acc x = 0
    · have e : newF acc (x :: l) = newF (acc ++ [x]) l := if_pos he
      rw [e] at h ⊢
      rw [ih _ h, List.append_assoc]
      rfl
    · have e : newF acc (x :: l) = ([], addE acc x) := if_neg he
      rw [e] at h
      exact absurd h he
end
end Go.Proofs.YtagmmbkgjomdlaaGreatDoor.Tb

/-
  The document's Get, Size, Same.
-/
namespace Go.Proofs.YtagmmbkgjomdlaaGreatDoor.Tb
open Go.RowKit Go.Proofs.YtagmmbkgjomdlaaGreatDoor.Ar Go.Maps
set_option linter.unusedVariables false

section
variable {w : World} {A : Option Addr} {c : Nat} {l : List Ty}
set_option maxRecDepth 100000 in
set_option maxHeartbeats 1000000 in
theorem dget_ok (hS : Seen w A l) (hlen : l.length ≤ 100000) (i : Int) (hi0 : -9223372036854775808 ≤ i) (hi1 : i ≤ 9223372036854775807) :
    Calls Tryz.prog 103 #[.slice A l.length c, .int .i64 i] w fun e w' => e = .returned (.tuple #[(getT l i).val, .int .i64 (errT (hasT l i))]) ∧ Kept [] w w' := by
  have hb0 : Has (w.alloc (.cells #[.int .u8 0, .int .i64 0, .int .u64 0] 84)) w.heap.size 84 [.int .u8 0, .int .i64 0, .int .u64 0] := Has.new w _ _
  have hk0 := (Kept.refl [] w).alloc (.cells #[.int .u8 0, .int .i64 0, .int .u64 0] 84)
  unfold Ty.val
  by_cases h1 : i < 1
  · obtain ⟨e1, e2⟩ := hasT_no (l := l) (i := i) (by omega)
    rw [e1, e2]
    unfold Ty.zero errT
    clear e1 e2 hS
    go_enter Tryz.func103, Tryz.ntmps103
    go_wp2_with fail
    refine ret_ty0 rfl rfl hb0 rfl rfl ⟨rfl, hk0⟩
  · by_cases h2 : i > (l.length : Int)
    · obtain ⟨e1, e2⟩ := hasT_no (l := l) (i := i) (by omega)
      rw [e1, e2]
      unfold Ty.zero errT
      clear e1 e2 hS
      go_enter Tryz.func103, Tryz.ntmps103
      go_wp2_with fail
      refine ret_ty0 rfl rfl hb0 rfl rfl ⟨rfl, hk0⟩
    · obtain ⟨t, ht⟩ : ∃ t : Nat, i - 1 = (t : Int) := ⟨(i - 1).toNat, by omega⟩
      have htl : t < l.length := by omega
      obtain ⟨e1, e2⟩ := hasT_yes ht htl
      rw [e1, e2]
      unfold errT
      clear e1 e2
      obtain ⟨g, f, rfl, hg, hcells⟩ := hS.at t htl _ rfl
      generalize l.getD t Ty.zero = x at *
      obtain ⟨c0, c1, c2⟩ := hcells _ hk0
      obtain ⟨f0, f1, f2⟩ := free3 hb0
      obtain ⟨d0, d1, d2⟩ := cells3 hb0
      have HB := Lib.hid hb0
      have HK := Lib.hid hk0
      clear hcells hS hb0 hk0
      go_enter Tryz.func103, Tryz.ntmps103
      go_wp2_with fail
      (try simp only [Exit.inBlock, Exit.then])
      refine ret_ty0 rfl rfl (Has.new w 84 [.int .u8 (x.k : Int), .int .i64 x.wd, .int .u64 (x.ms : Int)]) rfl rfl ⟨rfl, (Kept.refl [] w).alloc _⟩
set_option maxRecDepth 100000 in
set_option maxHeartbeats 1000000 in
theorem dsize_ok (hS : Seen w A l) (hok : ∀ x ∈ l, x.ok ∧ x.fit) (hlen : l.length ≤ 100000) (i n : Int) (hi0 : -9223372036854775808 ≤ i) (hi1 : i ≤ 9223372036854775807) :
    Calls Tryz.prog 129 #[.slice A l.length c, .int .i64 i, .int .i64 n] w fun e w' => e = .returned (.tuple #[.int .i64 (sizeT l i n), .int .i64 (sizeE l i n)]) ∧ Kept [] w w' := by
  have HC := Lib.hid (dget_ok (c := c) hS hlen i hi0 hi1)
  have HS := Lib.hid (fun x => Kd.sizeDoc_ok (getT l i).k (getT l i).wd (getT l i).ms n (getT_ok hok i).2 x)
  clear hS hok
  unfold sizeT sizeE
  unfold Kd.typV at HS
  generalize hasT l i = b at *
  generalize getT l i = x at *
  unfold Ty.val at *
  generalize Kd.sizeR x.k x.wd x.ms n = s at *
  generalize Kd.err x.k x.wd x.ms n = er at *
  cases b with
  | true =>
    go_enter Tryz.func129, Tryz.ntmps129
    go_wp2_with fail
    refine HC.out.mono ?_
    rintro e w1 ⟨rfl, h1⟩
    have H1 := Lib.hid h1
    clear h1
    simp only [errT, if_true]
    go_wp2_with fail
    refine (HS.out _).mono ?_
    rintro e w2 ⟨rfl, h2⟩
    have H2 := Lib.hid ((H1.out.alloc _).trans h2)
    clear h2 HS HC
    go_wp2_with fail
    go_ret2
    exact ⟨rfl, H2.out⟩
  | false =>
    clear HS
    go_enter Tryz.func129, Tryz.ntmps129
    go_wp2_with fail
    refine HC.out.mono ?_
    rintro e w1 ⟨rfl, h1⟩
    have H1 := Lib.hid (h1.alloc (.cells #[.int .u8 x.k, .int .i64 x.wd, .int .u64 x.ms] 84))
    clear h1 HC
    simp only [errT, if_false, Bool.false_eq_true]
    go_wp2_with fail
    go_ret2
    exact ⟨rfl, H1.out⟩
end
end Go.Proofs.YtagmmbkgjomdlaaGreatDoor.Tb

/-
  The contracts of Of and Fits, the program's and the document's.
-/
namespace Go.Proofs.YtagmmbkgjomdlaaGreatDoor.Hd
open Go.RowKit Go.Proofs.YtagmmbkgjomdlaaGreatDoor.Ar
set_option linter.unusedVariables false

/-- The header of an object: what the size and its error say. -/
def ofH (i n z er : Int) : Hd := if er = 0 then ⟨1, i, n, z⟩ else Hd.zero
/-- Does it match, if that is what Of answers? -/
def fitE (o : Hd) (oe : Int) (h : Hd) : Int := if ¬ h.can then 2 else if h.tg ≠ 1 then 0 else if oe ≠ 0 ∨ o ≠ h then 8 else 0
section
variable {w : World}
set_option maxRecDepth 100000 in
set_option maxHeartbeats 1000000 in
theorem of_ok (T : Value) (i n z er : Int) (HS : ∀ y, Kept [] w y → Calls Tryz.prog 113 #[T, .int .i64 i, .int .i64 n] y fun e w' => e = .returned (.tuple #[.int .i64 z, .int .i64 er]) ∧ Kept [] y w') :
    Calls Tryz.prog 70 #[T, .int .i64 i, .int .i64 n] w fun e w' => e = .returned (.tuple #[(ofH i n z er).val, .int .i64 er]) ∧ Kept [] w w' := by
  have hb := Hd.new w Hd.zero
  have k0 : Kept [] w (w.alloc (.cells #[.int .u8 Hd.zero.tg, .int .i64 Hd.zero.ty, .int .i64 Hd.zero.ln, .int .i64 Hd.zero.sz] 76)) := (Kept.refl [] w).alloc _
  unfold Hd.zero at hb k0
  simp only at hb k0
  have HB := Lib.hid hb
  have K0 := Lib.hid k0
  have HSS := Lib.hid HS
  clear hb k0 HS
  by_cases c : er = 0
  · subst c
    unfold ofH
    simp only [if_true]
    unfold Hd.val
    go_enter Tryz.func70, Tryz.ntmps70
    go_wp2_with fail
    refine (HSS.out _ K0.out).mono ?_
    rintro e x2 ⟨rfl, k2⟩
    have K2 := Lib.hid (K0.out.trans k2)
    have r2 := HB.out.keep0 k2
    clear k2 HSS K0 HB
    obtain ⟨f0, f1, f2, f3⟩ := free4 r2
    obtain ⟨d0, d1, d2, d3⟩ := cells4 r2
    have R2 := Lib.hid r2
    clear r2
    go_wp2_with fail
    exact ret_hd rfl rfl R2.out K2.out (Nat.le_refl _) rfl rfl fun X hX => ⟨rfl, hX⟩
  · unfold ofH
    rw [if_neg c]
    unfold Hd.val Hd.zero
    go_enter Tryz.func70, Tryz.ntmps70
    go_wp2_with fail
    refine (HSS.out _ K0.out).mono ?_
    rintro e x2 ⟨rfl, k2⟩
    have K2 := Lib.hid (K0.out.trans k2)
    have r2 := HB.out.keep0 k2
    clear k2 HSS K0 HB
    obtain ⟨f0, f1, f2, f3⟩ := free4 r2
    obtain ⟨d0, d1, d2, d3⟩ := cells4 r2
    have R2 := Lib.hid r2
    clear r2
    go_wp2_with fail
    exact ret_hd rfl rfl R2.out K2.out (Nat.le_refl _) rfl rfl fun X hX => ⟨rfl, hX⟩
set_option maxRecDepth 100000 in
set_option maxHeartbeats 1000000 in
theorem dof_ok (T : Value) (i n z er : Int) (HS : ∀ y, Kept [] w y → Calls Tryz.prog 129 #[T, .int .i64 i, .int .i64 n] y fun e w' => e = .returned (.tuple #[.int .i64 z, .int .i64 er]) ∧ Kept [] y w') :
    Calls Tryz.prog 85 #[T, .int .i64 i, .int .i64 n] w fun e w' => e = .returned (.tuple #[(ofH i n z er).val, .int .i64 er]) ∧ Kept [] w w' := by
  have hb := Hd.new w Hd.zero
  have k0 : Kept [] w (w.alloc (.cells #[.int .u8 Hd.zero.tg, .int .i64 Hd.zero.ty, .int .i64 Hd.zero.ln, .int .i64 Hd.zero.sz] 76)) := (Kept.refl [] w).alloc _
  unfold Hd.zero at hb k0
  simp only at hb k0
  have HB := Lib.hid hb
  have K0 := Lib.hid k0
  have HSS := Lib.hid HS
  clear hb k0 HS
  by_cases c : er = 0
  · subst c
    unfold ofH
    simp only [if_true]
    unfold Hd.val
    go_enter Tryz.func85, Tryz.ntmps85
    go_wp2_with fail
    refine (HSS.out _ K0.out).mono ?_
    rintro e x2 ⟨rfl, k2⟩
    have K2 := Lib.hid (K0.out.trans k2)
    have r2 := HB.out.keep0 k2
    clear k2 HSS K0 HB
    obtain ⟨f0, f1, f2, f3⟩ := free4 r2
    obtain ⟨d0, d1, d2, d3⟩ := cells4 r2
    have R2 := Lib.hid r2
    clear r2
    go_wp2_with fail
    exact ret_hd rfl rfl R2.out K2.out (Nat.le_refl _) rfl rfl fun X hX => ⟨rfl, hX⟩
  · unfold ofH
    rw [if_neg c]
    unfold Hd.val Hd.zero
    go_enter Tryz.func85, Tryz.ntmps85
    go_wp2_with fail
    refine (HSS.out _ K0.out).mono ?_
    rintro e x2 ⟨rfl, k2⟩
    have K2 := Lib.hid (K0.out.trans k2)
    have r2 := HB.out.keep0 k2
    clear k2 HSS K0 HB
    obtain ⟨f0, f1, f2, f3⟩ := free4 r2
    obtain ⟨d0, d1, d2, d3⟩ := cells4 r2
    have R2 := Lib.hid r2
    clear r2
    go_wp2_with fail
    exact ret_hd rfl rfl R2.out K2.out (Nat.le_refl _) rfl rfl fun X hX => ⟨rfl, hX⟩
set_option maxRecDepth 100000 in
set_option maxHeartbeats 1000000 in
theorem fits_ok (h : Fields w) (T : Value) (x : Hd) (ok : x.ok) (o : Hd) (oe : Int) (HO : ∀ y, Kept [] w y → Calls Tryz.prog 70 #[T, .int .i64 x.ty, .int .i64 x.ln] y fun e w' => e = .returned (.tuple #[o.val, .int .i64 oe]) ∧ Kept [] y w') :
    Calls Tryz.prog 76 #[T, x.val] w fun e w' => e = .returned (.int .i64 (fitE o oe x)) ∧ Kept [] w w' := by
  have hb := Hd.new w x
  have k0 : Kept [] w (w.alloc (.cells #[.int .u8 x.tg, .int .i64 x.ty, .int .i64 x.ln, .int .i64 x.sz] 76)) := (Kept.refl [] w).alloc _
  have HC := Lib.hid (fun y (k : Kept [] w y) => check_ok (h.keep0 k) x ok)
  have HOO := Lib.hid HO
  have HN : Hid (∀ y : World, Has (y.alloc (.cells #[.int .u8 o.tg, .int .i64 o.ty, .int .i64 o.ln, .int .i64 o.sz] 76)) y.heap.size 76 [.int .u8 o.tg, .int .i64 o.ty, .int .i64 o.ln, .int .i64 o.sz]) := Lib.hid fun y => Hd.new y _
  have hne := run_other
  have hng := no_guard
  have hq : eqB o.tg o.ty o.ln o.sz x.tg x.ty x.ln x.sz = decide (o = x) := eqB_dec o x
  have hg0 := ok.g0
  have hg1 := ok.g1
  clear HO h ok
  by_cases c : x.can
  · have hf : fitE o oe x = if x.tg ≠ 1 then 0 else if oe ≠ 0 ∨ o ≠ x then 8 else 0 := by unfold fitE; rw [if_neg (fun h => h c)]
    rw [hf]
    rw [errH_yes c] at HC
    clear hf c
    by_cases h1 : x.tg = 1
    · rw [if_neg (fun h => h h1)]
      by_cases h2 : oe = 0
      · subst h2
        by_cases h3 : o = x
        · rw [if_neg (by simp [h3])]
          rw [decide_eq_true h3] at hq
          clear h3
          unfold Hd.val at *
          generalize x.tg = g at *
          generalize x.ty = t at *
          generalize x.ln = n at *
          subst h1
          generalize x.sz = s at *
          have HB := Lib.hid hb
          have K0 := Lib.hid k0
          clear hb k0
          go_enter Tryz.func76, Tryz.ntmps76
          go_wp2_with fail
          refine (HC.out _ K0.out).mono ?_
          rintro e x1 ⟨rfl, k1⟩
          have b1 := HB.out.keep0 k1
          obtain ⟨c0, c1, c2, c3⟩ := cells4 b1
          have K1 := Lib.hid (K0.out.trans k1)
          have HB1 := Lib.hid b1
          clear k1 b1 HC K0 HB
          go_wp2_with fail
          refine (HOO.out _ K1.out).mono ?_
          rintro e x2 ⟨rfl, k2⟩
          have K2 := Lib.hid (K1.out.trans k2)
          have b2 := HB1.out.keep0 k2
          have n2 := HN.out x2
          clear k2 HOO K1 HB1 HN c0 c1 c2 c3
          obtain ⟨c0, c1, c2, c3⟩ := cells4 (b2.alloc (.cells #[.int .u8 o.tg, .int .i64 o.ty, .int .i64 o.ln, .int .i64 o.sz] 76))
          obtain ⟨d0, d1, d2, d3⟩ := cells4 n2
          clear b2 n2
          go_wp2_with fail
          go_ret
          exact ⟨rfl, K2.out.alloc _⟩
        · rw [if_pos (.inr h3)]
          rw [decide_eq_false h3] at hq
          clear h3
          unfold Hd.val at *
          generalize x.tg = g at *
          generalize x.ty = t at *
          generalize x.ln = n at *
          subst h1
          generalize x.sz = s at *
          have HB := Lib.hid hb
          have K0 := Lib.hid k0
          clear hb k0
          go_enter Tryz.func76, Tryz.ntmps76
          go_wp2_with fail
          refine (HC.out _ K0.out).mono ?_
          rintro e x1 ⟨rfl, k1⟩
          have b1 := HB.out.keep0 k1
          obtain ⟨c0, c1, c2, c3⟩ := cells4 b1
          have K1 := Lib.hid (K0.out.trans k1)
          have HB1 := Lib.hid b1
          clear k1 b1 HC K0 HB
          go_wp2_with fail
          refine (HOO.out _ K1.out).mono ?_
          rintro e x2 ⟨rfl, k2⟩
          have K2 := Lib.hid (K1.out.trans k2)
          have b2 := HB1.out.keep0 k2
          have n2 := HN.out x2
          clear k2 HOO K1 HB1 HN c0 c1 c2 c3
          obtain ⟨c0, c1, c2, c3⟩ := cells4 (b2.alloc (.cells #[.int .u8 o.tg, .int .i64 o.ty, .int .i64 o.ln, .int .i64 o.sz] 76))
          obtain ⟨d0, d1, d2, d3⟩ := cells4 n2
          clear b2 n2
          go_wp2_with fail
          go_ret
          exact ⟨rfl, K2.out.alloc _⟩
      · rw [if_pos (.inl h2)]
        clear hq
        unfold Hd.val at *
        generalize x.tg = g at *
        generalize x.ty = t at *
        generalize x.ln = n at *
        subst h1
        generalize x.sz = s at *
        have HB := Lib.hid hb
        have K0 := Lib.hid k0
        clear hb k0
        go_enter Tryz.func76, Tryz.ntmps76
        go_wp2_with fail
        refine (HC.out _ K0.out).mono ?_
        rintro e x1 ⟨rfl, k1⟩
        have b1 := HB.out.keep0 k1
        obtain ⟨c0, c1, c2, c3⟩ := cells4 b1
        have K1 := Lib.hid (K0.out.trans k1)
        have HB1 := Lib.hid b1
        clear k1 b1 HC K0 HB
        go_wp2_with fail
        refine (HOO.out _ K1.out).mono ?_
        rintro e x2 ⟨rfl, k2⟩
        have K2 := Lib.hid (K1.out.trans k2)
        have b2 := HB1.out.keep0 k2
        have n2 := HN.out x2
        clear k2 HOO K1 HB1 HN c0 c1 c2 c3
        obtain ⟨c0, c1, c2, c3⟩ := cells4 (b2.alloc (.cells #[.int .u8 o.tg, .int .i64 o.ty, .int .i64 o.ln, .int .i64 o.sz] 76))
        obtain ⟨d0, d1, d2, d3⟩ := cells4 n2
        clear b2 n2
        go_wp2_with fail
        go_ret
        exact ⟨rfl, K2.out.alloc _⟩
    · rw [if_pos h1]
      clear hq HOO HN
      unfold Hd.val at *
      generalize x.tg = g at *
      generalize x.ty = t at *
      generalize x.ln = n at *
      generalize x.sz = s at *
      have HB := Lib.hid hb
      have K0 := Lib.hid k0
      clear hb k0
      go_enter Tryz.func76, Tryz.ntmps76
      go_wp2_with fail
      refine (HC.out _ K0.out).mono ?_
      rintro e x1 ⟨rfl, k1⟩
      have b1 := HB.out.keep0 k1
      obtain ⟨c0, c1, c2, c3⟩ := cells4 b1
      have K1 := Lib.hid (K0.out.trans k1)
      have HB1 := Lib.hid b1
      clear k1 b1 HC K0 HB
      go_wp2_with fail
      go_ret
      exact ⟨rfl, K1.out⟩
  · have hf : fitE o oe x = 2 := by unfold fitE; rw [if_pos c]
    rw [hf]
    rw [errH_no c] at HC
    clear hf c hq HOO HN
    unfold Hd.val at *
    generalize x.tg = g at *
    generalize x.ty = t at *
    generalize x.ln = n at *
    generalize x.sz = s at *
    have HB := Lib.hid hb
    have K0 := Lib.hid k0
    clear hb k0
    go_enter Tryz.func76, Tryz.ntmps76
    go_wp2_with fail
    refine (HC.out _ K0.out).mono ?_
    rintro e x1 ⟨rfl, k1⟩
    have b1 := HB.out.keep0 k1
    obtain ⟨c0, c1, c2, c3⟩ := cells4 b1
    have K1 := Lib.hid (K0.out.trans k1)
    have HB1 := Lib.hid b1
    clear k1 b1 HC K0 HB
    go_wp2_with fail
    go_ret
    exact ⟨rfl, K1.out⟩
set_option maxRecDepth 100000 in
set_option maxHeartbeats 1000000 in
theorem dfits_ok (T : Value) (x : Hd) (ok : x.ok) (o : Hd) (oe : Int) (HO : ∀ y, Kept [] w y → Calls Tryz.prog 85 #[T, .int .i64 x.ty, .int .i64 x.ln] y fun e w' => e = .returned (.tuple #[o.val, .int .i64 oe]) ∧ Kept [] y w') :
    Calls Tryz.prog 95 #[T, x.val] w fun e w' => e = .returned (.int .i64 (fitE o oe x)) ∧ Kept [] w w' := by
  have hb := Hd.new w x
  have k0 : Kept [] w (w.alloc (.cells #[.int .u8 x.tg, .int .i64 x.ty, .int .i64 x.ln, .int .i64 x.sz] 76)) := (Kept.refl [] w).alloc _
  have HC := Lib.hid (fun y (k : Kept [] w y) => may_ok (w := y) x ok)
  have HOO := Lib.hid HO
  have HN : Hid (∀ y : World, Has (y.alloc (.cells #[.int .u8 o.tg, .int .i64 o.ty, .int .i64 o.ln, .int .i64 o.sz] 76)) y.heap.size 76 [.int .u8 o.tg, .int .i64 o.ty, .int .i64 o.ln, .int .i64 o.sz]) := Lib.hid fun y => Hd.new y _
  have hne := run_other
  have hng := no_guard
  have hq : eqB o.tg o.ty o.ln o.sz x.tg x.ty x.ln x.sz = decide (o = x) := eqB_dec o x
  have hg0 := ok.g0
  have hg1 := ok.g1
  clear HO ok
  by_cases c : x.can
  · have hf : fitE o oe x = if x.tg ≠ 1 then 0 else if oe ≠ 0 ∨ o ≠ x then 8 else 0 := by unfold fitE; rw [if_neg (fun h => h c)]
    rw [hf]
    rw [decide_eq_true c] at HC
    clear hf c
    by_cases h1 : x.tg = 1
    · rw [if_neg (fun h => h h1)]
      by_cases h2 : oe = 0
      · subst h2
        by_cases h3 : o = x
        · rw [if_neg (by simp [h3])]
          rw [decide_eq_true h3] at hq
          clear h3
          unfold Hd.val at *
          generalize x.tg = g at *
          generalize x.ty = t at *
          generalize x.ln = n at *
          subst h1
          generalize x.sz = s at *
          have HB := Lib.hid hb
          have K0 := Lib.hid k0
          clear hb k0
          go_enter Tryz.func95, Tryz.ntmps95
          go_wp2_with fail
          refine (HC.out _ K0.out).mono ?_
          rintro e x1 ⟨rfl, k1⟩
          have b1 := HB.out.keep0 k1
          obtain ⟨c0, c1, c2, c3⟩ := cells4 b1
          have K1 := Lib.hid (K0.out.trans k1)
          have HB1 := Lib.hid b1
          clear k1 b1 HC K0 HB
          go_wp2_with fail
          refine (HOO.out _ K1.out).mono ?_
          rintro e x2 ⟨rfl, k2⟩
          have K2 := Lib.hid (K1.out.trans k2)
          have b2 := HB1.out.keep0 k2
          have n2 := HN.out x2
          clear k2 HOO K1 HB1 HN c0 c1 c2 c3
          obtain ⟨c0, c1, c2, c3⟩ := cells4 (b2.alloc (.cells #[.int .u8 o.tg, .int .i64 o.ty, .int .i64 o.ln, .int .i64 o.sz] 76))
          obtain ⟨d0, d1, d2, d3⟩ := cells4 n2
          clear b2 n2
          go_wp2_with fail
          go_ret
          exact ⟨rfl, K2.out.alloc _⟩
        · rw [if_pos (.inr h3)]
          rw [decide_eq_false h3] at hq
          clear h3
          unfold Hd.val at *
          generalize x.tg = g at *
          generalize x.ty = t at *
          generalize x.ln = n at *
          subst h1
          generalize x.sz = s at *
          have HB := Lib.hid hb
          have K0 := Lib.hid k0
          clear hb k0
          go_enter Tryz.func95, Tryz.ntmps95
          go_wp2_with fail
          refine (HC.out _ K0.out).mono ?_
          rintro e x1 ⟨rfl, k1⟩
          have b1 := HB.out.keep0 k1
          obtain ⟨c0, c1, c2, c3⟩ := cells4 b1
          have K1 := Lib.hid (K0.out.trans k1)
          have HB1 := Lib.hid b1
          clear k1 b1 HC K0 HB
          go_wp2_with fail
          refine (HOO.out _ K1.out).mono ?_
          rintro e x2 ⟨rfl, k2⟩
          have K2 := Lib.hid (K1.out.trans k2)
          have b2 := HB1.out.keep0 k2
          have n2 := HN.out x2
          clear k2 HOO K1 HB1 HN c0 c1 c2 c3
          obtain ⟨c0, c1, c2, c3⟩ := cells4 (b2.alloc (.cells #[.int .u8 o.tg, .int .i64 o.ty, .int .i64 o.ln, .int .i64 o.sz] 76))
          obtain ⟨d0, d1, d2, d3⟩ := cells4 n2
          clear b2 n2
          go_wp2_with fail
          go_ret
          exact ⟨rfl, K2.out.alloc _⟩
      · rw [if_pos (.inl h2)]
        clear hq
        unfold Hd.val at *
        generalize x.tg = g at *
        generalize x.ty = t at *
        generalize x.ln = n at *
        subst h1
        generalize x.sz = s at *
        have HB := Lib.hid hb
        have K0 := Lib.hid k0
        clear hb k0
        go_enter Tryz.func95, Tryz.ntmps95
        go_wp2_with fail
        refine (HC.out _ K0.out).mono ?_
        rintro e x1 ⟨rfl, k1⟩
        have b1 := HB.out.keep0 k1
        obtain ⟨c0, c1, c2, c3⟩ := cells4 b1
        have K1 := Lib.hid (K0.out.trans k1)
        have HB1 := Lib.hid b1
        clear k1 b1 HC K0 HB
        go_wp2_with fail
        refine (HOO.out _ K1.out).mono ?_
        rintro e x2 ⟨rfl, k2⟩
        have K2 := Lib.hid (K1.out.trans k2)
        have b2 := HB1.out.keep0 k2
        have n2 := HN.out x2
        clear k2 HOO K1 HB1 HN c0 c1 c2 c3
        obtain ⟨c0, c1, c2, c3⟩ := cells4 (b2.alloc (.cells #[.int .u8 o.tg, .int .i64 o.ty, .int .i64 o.ln, .int .i64 o.sz] 76))
        obtain ⟨d0, d1, d2, d3⟩ := cells4 n2
        clear b2 n2
        go_wp2_with fail
        go_ret
        exact ⟨rfl, K2.out.alloc _⟩
    · rw [if_pos h1]
      clear hq HOO HN
      unfold Hd.val at *
      generalize x.tg = g at *
      generalize x.ty = t at *
      generalize x.ln = n at *
      generalize x.sz = s at *
      have HB := Lib.hid hb
      have K0 := Lib.hid k0
      clear hb k0
      go_enter Tryz.func95, Tryz.ntmps95
      go_wp2_with fail
      refine (HC.out _ K0.out).mono ?_
      rintro e x1 ⟨rfl, k1⟩
      have b1 := HB.out.keep0 k1
      obtain ⟨c0, c1, c2, c3⟩ := cells4 b1
      have K1 := Lib.hid (K0.out.trans k1)
      have HB1 := Lib.hid b1
      clear k1 b1 HC K0 HB
      go_wp2_with fail
      go_ret
      exact ⟨rfl, K1.out⟩
  · have hf : fitE o oe x = 2 := by unfold fitE; rw [if_pos c]
    rw [hf]
    rw [decide_eq_false c] at HC
    clear hf c hq HOO HN
    unfold Hd.val at *
    generalize x.tg = g at *
    generalize x.ty = t at *
    generalize x.ln = n at *
    generalize x.sz = s at *
    have HB := Lib.hid hb
    have K0 := Lib.hid k0
    clear hb k0
    go_enter Tryz.func95, Tryz.ntmps95
    go_wp2_with fail
    refine (HC.out _ K0.out).mono ?_
    rintro e x1 ⟨rfl, k1⟩
    have b1 := HB.out.keep0 k1
    obtain ⟨c0, c1, c2, c3⟩ := cells4 b1
    have K1 := Lib.hid (K0.out.trans k1)
    have HB1 := Lib.hid b1
    clear k1 b1 HC K0 HB
    go_wp2_with fail
    go_ret
    exact ⟨rfl, K1.out⟩
end
end Go.Proofs.YtagmmbkgjomdlaaGreatDoor.Hd
