/-
  The contract of Prev.
-/
import Derived.Test.YtijlaganpnoefaaDoorBtNil
namespace Go.Proofs.YtijlaganpnoefaaDoor.Bt
open Go.RowKit Go.Proofs.YtijlaganpnoefaaDoor.Ar Go.Proofs.YtijlaganpnoefaaDoor.Wd Go.Shelf Go.Sort
set_option linter.unusedVariables false
attribute [local go_sem] Oper.semAt_some

theorem pieceD_bit {bs : List Bool} {ws : List Int} (h : Means bs ws) {c : Nat} (hc : c ≤ bs.length) (hc0 : 0 < c) {x : Pc} (hx : isAtD (· = ws) c x) (j : Nat) (hj : j < x.n) : x.v.testBit j = bit bs (x.k * 64 + j) := by
  obtain ⟨h2, h3, h4, ws', h5, h6⟩ := hx
  subst h5
  have e := h.field ((c - 1) / 64 * 64) x.n j (by omega) (by omega) hj
  rw [show (c - 1) / 64 * 64 / 64 = (c - 1) / 64 by omega, show (c - 1) / 64 * 64 % 64 = 0 by omega] at e
  rw [h6, h3, h2]
  exact e
theorem pieceD_beyond {ws : List Int} {c : Nat} {x : Pc} (hx : isAtD (· = ws) c x) (j : Nat) (hj : x.n ≤ j) : x.v.testBit j = false := by
  obtain ⟨h2, h3, h4, ws', h5, h6⟩ := hx
  rw [h6]
  exact field_beyond _ _ _ _ hj
theorem Falls.miss {bs : List Bool} {ws : List Int} (h : Means bs ws) {nw : Nat} : ∀ {xs : List (Pcs nw)} {s t : Nat}, Falls (· = ws) s xs t → s ≤ bs.length → (∀ x ∈ xs, x.1.v = 0) → ∀ j, t ≤ j → j < s → bit bs j = false
  | [], s, t, hg, _, _, j, h1, h2 => by
    have h' : t = s := hg
    omega
  | x :: xs, s, t, ⟨h1, h2, h7⟩, hs, ha, j, j1, j2 => by
    have hk := h2.1
    have hn := h2.2.2.1
    by_cases hj : s - x.1.n ≤ j
    · have hx := pieceD_bit h hs h1 h2 (j - x.1.k * 64) (by omega)
      rw [ha x (by simp), Nat.zero_testBit, show x.1.k * 64 + (j - x.1.k * 64) = j by omega] at hx
      exact hx.symm
    · exact Falls.miss h h7 (by omega) (fun y hy => ha y (by simp [hy])) j j1 (by omega)
theorem Falls.split {G : List Int → Prop} {nw : Nat} {x : Pcs nw} : ∀ {xs : List (Pcs nw)} {s t : Nat}, Falls G s (xs ++ [x]) t → ∃ r, Falls G s xs r ∧ 0 < r ∧ isAtD G r x.1
  | [], s, t, ⟨h1, h2, h3⟩ => ⟨s, rfl, h1, h2⟩
  | y :: ys, s, t, ⟨h1, h2, h3⟩ => let ⟨r, a, b, c⟩ := Falls.split h3; ⟨r, ⟨h1, h2, a⟩, b, c⟩
theorem Falls.found {bs : List Bool} {ws : List Int} (h : Means bs ws) {nw : Nat} {xs : List (Pcs nw)} {x : Pcs nw} {s t : Nat} (hg : Falls (· = ws) s (xs ++ [x]) t) (hs : s ≤ bs.length) (ha : ∀ y ∈ xs, y.1.v = 0) (hx : x.1.v ≠ 0) :
    prevV (bit bs) s = some (x.1.k * 64 + Nat.log2 x.1.v) := by
  obtain ⟨r, h1, h2, h3⟩ := hg.split
  have hr := h1.length
  obtain ⟨l1, l2⟩ := top_bit x.1.v hx
  have hk := h3.1
  have hn := h3.2.2.1
  have hl : Nat.log2 x.1.v < x.1.n := by
    rcases Nat.lt_or_ge (Nat.log2 x.1.v) x.1.n with h | h
    · exact h
    · rw [pieceD_beyond h3 _ h] at l1
      cases l1
  refine prevV_hit _ _ _ (by omega) ?_ fun j j1 j2 => ?_
  · rw [← pieceD_bit h (by omega) h2 h3 _ hl]
    exact l1
  · by_cases hj : r ≤ j
    · exact Falls.miss h h1 hs ha j hj j2
    · have hb := l2 (j - x.1.k * 64) (by omega)
      rw [pieceD_bit h (by omega) h2 h3 (j - x.1.k * 64) (by omega), show x.1.k * 64 + (j - x.1.k * 64) = j by omega] at hb
      exact hb
theorem good_c (ws : List Int) {w : World} {p q n : Nat} (h : Vec w p q n ws) : Good (· = ws) := good_of h

/-- The last place up to i whose bit is set. -/
def prevO (bs : List Bool) (i : Int) : Option Nat := prevV (bit bs) (min i ((bs.length : Nat) - 1) + 1).toNat
set_option maxRecDepth 100000 in
set_option maxHeartbeats 4000000 in
theorem prev_ok (bs : List Bool) (p q : Nat) (w : World) (hv : Bv w p q bs) (i : Int) (i1 : -9223372036854775808 ≤ i) (i2 : i ≤ 9223372036854775807) :
    Calls Tryd.prog 38 #[.pointer (some ⟨p, 0, none⟩), .int .i64 i] w fun e w' => e = .returned (.tuple #[.int .i64 (atI (prevO bs i)), .bool (prevO bs i).isSome]) ∧ Kept [] w w' := by
  obtain ⟨o, ho⟩ : ∃ o, prevO bs i = o := ⟨_, rfl⟩
  rw [ho]
  obtain ⟨ws, hV, hM⟩ := hv
  have hf := hV.few
  have HV := Lib.hid hV
  have HM := Lib.hid hM
  have Ho := Lib.hid ho
  clear hV hM ho
  refine (callsIn_wide (n := 5)).1 ?_
  refine callsIn_of_wp_marks Tryd.func38 rfl trivial ?_ rfl
  simp only [Tryd.ntmps38, List.size_toArray, List.length_cons, List.length_nil, Nat.reduceAdd, Nat.reduceSub, Array.replicate_succ, Array.replicate_zero, List.push_toArray, List.append_toArray, List.nil_append, List.cons_append]
  gi_wp2_with (fail)
  have hk3 : Kept [] w ((w.alloc (.cells #[.int .i64 0] 3)).alloc (.cells #[.bool false] 4)) := ((Kept.refl [] w).alloc _).alloc _
  have hc6 := (Has.new w 3 [.int .i64 0]).alloc (.cells #[.bool false] 4)
  have hc7 := Has.new (w.alloc (.cells #[.int .i64 0] 3)) 4 [.bool false]
  rw [World.size_alloc] at hc7
  have hz3 : ((w.alloc (.cells #[.int .i64 0] 3)).alloc (.cells #[.bool false] 4)).heap.size = w.heap.size + 1 + 1 := by simp
  obtain ⟨w3, hw3⟩ : ∃ w3, ((w.alloc (.cells #[.int .i64 0] 3)).alloc (.cells #[.bool false] 4)) = w3 := ⟨_, rfl⟩
  rw [hw3] at hk3 hz3 ⊢
  have hc6' : Has w3 w.heap.size 3 [.int .i64 0] := by rw [← hw3]; exact hc6
  have hc7' : Has w3 (w.heap.size + 1) 4 [.bool false] := by rw [← hw3]; exact hc7
  clear hc6 hc7 hw3
  have HL := Lib.hid (len_ok w3 (HV.out.keep0 hk3))
  have Hz3 := Lib.hid hz3
  have Hk3 := Lib.hid hk3
  have Hc6 := Lib.hid hc6'
  have Hc7 := Lib.hid hc7'
  clear hz3 hk3 hc6' hc7'
  refine ⟨trivial, (callsIn_wide.2 HL.out).mono ?_⟩
  rintro e w' ⟨rfl, rfl⟩
  gi_wp2_with (fail)
  refine ⟨trivial, (callsIn_wide.2 (down_ok 0 _ _ _)).mono ?_⟩
  rintro e0 w0 ⟨rfl, hw0⟩
  have hk0 : Kept [] w3 w0 := by rw [hw0]; exact ((Kept.refl [] w3).alloc _).alloc _
  have h1 := (Has.new w3 47 [.pointer (some ⟨p, 0, none⟩)]).alloc (.cells #[.int .i64 (min i ((bs.length : Nat) - 1))] 3)
  have h2 := Has.new (w3.alloc (.cells #[.pointer (some ⟨p, 0, none⟩)] 47)) 3 [.int .i64 (min i ((bs.length : Nat) - 1))]
  rw [World.size_alloc, Hz3.out] at h2
  rw [Hz3.out] at h1
  have h1' : Has w0 (w.heap.size + 1 + 1) 47 [.pointer (some ⟨p, 0, none⟩)] := by rw [hw0]; exact h1
  have h2' : Has w0 (w.heap.size + 1 + 1 + 1) 3 [.int .i64 (min i ((bs.length : Nat) - 1))] := by rw [hw0]; exact h2
  clear hw0 h1 h2
  rw [Hz3.out]
  have hR : ReadsD (· = ws) w0 p q bs.length (w.heap.size + 1 + 1 + 1) (w.heap.size + 1 + 1) (min i ((bs.length : Nat) - 1)) :=
    ⟨HV.out.head.keep0 (Hk3.out.trans hk0), ⟨ws, rfl, HV.out.row.keep0 (Hk3.out.trans hk0)⟩, h2', h1'⟩
  have HR := Lib.hid hR
  have Hk0 := Lib.hid hk0
  clear hk0 h1' h2' hR
  gi_wp2_with (fail)
  have Hkw := Lib.hid (Hk3.out.trans Hk0.out)
  refine wpIn_rangeFunc_ownH rfl (by decide) (gf := 55) (lb := #[.pointer (some ⟨w.heap.size + 1 + 1 + 1, 0, none⟩), .pointer (some ⟨w.heap.size + 1 + 1, 0, none⟩)]) rfl trivial (enters_of Tryd.func55 (by kernel_rfl) rfl)
    (down_stops 4 (by decide) (· = ws) (good_of HV.out) [] p q bs.length (w.heap.size + 1 + 1 + 1) (w.heap.size + 1 + 1) (min i ((bs.length : Nat) - 1)) hf (by omega) (by omega) (by simp) w0 (by simp) HR.out)
    (fun h k => h.trans k) (fun W l o o' _ h hc _ => Keeps.put W l o o' h hc) (Below.refl _ _) (fun _ => rfl)
    (fun pre W => (∀ x ∈ pre, x.1.v = 0) ∧ Has W w.heap.size 3 [.int .i64 0] ∧ Has W (w.heap.size + 1) 4 [.bool false] ∧ Kept [] w W)
    (fun c pre W => (c = .ret ∧ ∃ ys x, pre = ys ++ [x] ∧ (∀ y ∈ ys, y.1.v = 0) ∧ x.1.v ≠ 0 ∧ Has W w.heap.size 3 [.int .i64 ((x.1.k * 64 + x.1.a + lenN x.1.v : Nat) - 1)] ∧ Has W (w.heap.size + 1) 4 [.bool true]) ∧ Kept [] w W)
    (OwnFrom.and (ownFrom_pure _ _) (OwnFrom.and own_has (OwnFrom.and own_has (own_kept Hkw.out.more))))
    (fun c => OwnFrom.and (fun pre X Y row hs hg hr => by
      obtain ⟨hc, ys, x, h1, h2, h3, h4, h5⟩ := hs
      exact ⟨hc, ys, x, h1, h2, h3, own_has (β := Unit) (f := fun _ => [.int .i64 ((x.1.k * 64 + x.1.a + lenN x.1.v : Nat) - 1)]) () X Y row h4 hg hr, own_has (β := Unit) (f := fun _ => [.bool true]) () X Y row h5 hg hr⟩) (own_kept Hkw.out.more))
    ⟨(by simp), Hc6.out.keep0 Hk0.out, Hc7.out.keep0 Hk0.out, Hkw.out⟩
    (fun x a' W => ∃ Bx, Has W Bx 77 [.int .i64 ((x.1.k : Nat) : Int), .int .i64 ((x.1.a : Nat) : Int), .int .i64 ((x.1.n : Nat) : Int)] ∧ a' = { tmps := #[.pointer (some ⟨p, 0, none⟩), .int .i64 i, undef, undef, .pointer (some ⟨w.heap.size, 0, none⟩), .pointer (some ⟨w.heap.size + 1, 0, none⟩), .pointer (some ⟨Bx, 0, none⟩), .int .u64 ((x.1.v : Nat) : Int), .pointer (some ⟨p, 0, none⟩), .int .i64 i, .pointer (some ⟨p, 0, none⟩), .int .i64 (bs.length : Nat), .int .i64 ((bs.length : Nat) - 1), .int .i64 (min i ((bs.length : Nat) - 1)), .func (.func 55) #[] #[.pointer (some ⟨w.heap.size + 1 + 1 + 1, 0, none⟩), .pointer (some ⟨w.heap.size + 1 + 1, 0, none⟩)], pieceV x.1.k x.1.a x.1.n, .int .u64 ((x.1.v : Nat) : Int), undef, undef, undef, undef, undef, undef, undef, undef], defers := [] })
    (fun x a' _ X Y row hs hg hr => by
      obtain ⟨Bx, h2, h3⟩ := hs
      exact ⟨Bx, own_has (β := Unit) (f := fun _ => [.int .i64 ((x.1.k : Nat) : Int), .int .i64 ((x.1.a : Nat) : Int), .int .i64 ((x.1.n : Nat) : Int)]) () X Y row h2 hg hr, h3⟩)
    ?assign ?body ?done ?stop
  case assign =>
    rintro l pre x W K hi hK
    unfold encs pieceV
    have HK := Lib.hid hK
    have HI := Lib.hid hi
    clear hi hK
    gi_wp2
    have hkn : Kept [] W (W.alloc (.cells #[.int .i64 ((x.1.k : Nat) : Int), .int .i64 ((x.1.a : Nat) : Int), .int .i64 ((x.1.n : Nat) : Int)] 77)) := (Kept.refl [] W).alloc _
    exact HK.out _ _ (keepsFrom_of hkn (by simp)) (Keeps.of (CellsKept.of_kept hkn) (by simp)) ⟨HI.out.1, HI.out.2.1.keep0 hkn, HI.out.2.2.1.keep0 hkn, HI.out.2.2.2.trans hkn⟩ ⟨W.heap.size, Has.new W _ _, rfl⟩
  case body =>
    rintro l pre x a' W _ _ ⟨hmi, h6, h7, hk⟩ ⟨Bx, hX, rfl⟩ hlen
    have c6 := h6.cell 0
    have f6 := h6.free 0
    have c7 := h7.cell 0
    have f7 := h7.free 0
    have x0 := hX.cell 0
    have x1 := hX.cell 1
    have x2 := hX.cell 2
    simp at c6 c7 x0 x1 x2
    obtain ⟨hx1, hx2, hx3, hx4⟩ := x.2
    have hLen : ∀ W, Calls Tryd.prog 47 #[.int .u64 ((x.1.v : Nat) : Int)] W fun e w' => e = .returned (.int .i64 ((lenN x.1.v : Nat) : Int)) ∧ W = w' := fun W => by
      have h := len64_any ((x.1.v : Nat) : Int) (by omega) (by omega) W
      rw [Int.toNat_natCast] at h
      exact h
    have hLl : lenN x.1.v ≤ 64 := by
      rw [← lenN_bitLen _ hx4]
      exact Lib.bitLenAux_le 64 x.1.v 64 hx4
    obtain ⟨L, hL⟩ : ∃ L, L = lenN x.1.v := ⟨_, rfl⟩
    rw [← hL] at hLen hLl
    have hkb : x.1.k ≤ 65536 := by omega
    have Hf := fun W => Lib.hid (first_ok x.1.k x.1.a x.1.n hkb (by omega) W)
    have HLen := Lib.hid hLen
    have HL := Lib.hid hL
    have Hmi := Lib.hid hmi
    have H6 := Lib.hid h6
    have H7 := Lib.hid h7
    have Hk := Lib.hid hk
    have HX := Lib.hid hX
    clear hLen hL hmi h6 h7 hk hX
    by_cases hz : x.1.v = 0
    · have Hz := Lib.hid hz
      have hz1 : (((x.1.v : Nat) : Int) != 0) = false := by rw [hz]; rfl
      clear hz
      gi_wp2_with (fail)
      refine ⟨KeepsFrom.refl _ _, Keeps.of (CellsKept.of_kept (Kept.refl _ W)) (by simp), fun y hy => ?_, H6.out, H7.out, Hk.out⟩
      rcases List.mem_append.1 hy with h | h
      · exact Hmi.out y h
      · rw [List.mem_singleton.1 h]
        exact Hz.out
    · have Hz := Lib.hid hz
      have hz1 : (((x.1.v : Nat) : Int) != 0) = true := by rw [bne_iff_ne]; omega
      clear hz
      gi_wp2_with (fail)
      refine ⟨trivial, (CallsIn.inRound l (callsIn_wide.2 (Hf W).out)).mono ?_⟩
      rintro e1 W1 ⟨rfl, hk1⟩
      have c6 := (H6.out.keep0 hk1).cell 0
      have f6 := (H6.out.keep0 hk1).free 0
      have c7 := (H7.out.keep0 hk1).cell 0
      have f7 := (H7.out.keep0 hk1).free 0
      simp at c6 c7
      have Hk1 := Lib.hid hk1
      clear hk1
      gi_wp2_with (fail)
      refine ⟨trivial, (CallsIn.inRound l (callsIn_wide.2 (HLen.out W1))).mono ?_⟩
      rintro e2 W2 ⟨rfl, rfl⟩
      gi_wp2_with (fail)
      have hKS : Kept [w.heap.size, w.heap.size + 1] W ((W1.setCell ⟨w.heap.size, 0, none⟩ (.int .i64 ((x.1.k : Int) * 64 + (x.1.a : Int) + (L : Int) - 1))).setCell ⟨w.heap.size + 1, 0, none⟩ (.bool true)) :=
        ((Hk1.out.none _).setCell _ _ (.inl (by simp))).setCell _ _ (.inl (by simp))
      have h6 := ((H6.out.keep0 Hk1.out).put 0 (.int .i64 ((x.1.k : Int) * 64 + (x.1.a : Int) + (L : Int) - 1))).beside ⟨w.heap.size + 1, 0, none⟩ (by simp) (.bool true)
      have h7 := ((H7.out.keep0 Hk1.out).beside ⟨w.heap.size, 0, none⟩ (by simp) (.int .i64 ((x.1.k : Int) * 64 + (x.1.a : Int) + (L : Int) - 1))).put 0 (.bool true)
      refine ⟨keepsFrom_of hKS (fun b hb => ?_), ⟨rfl, pre, x, rfl, Hmi.out, Hz.out, ?_, h7⟩, ((Hk.out.trans Hk1.out).setCell _ _ (.inr (by first | (simp; done) | (simp; omega)))).setCell _ _ (.inr (by first | (simp; done) | (simp; omega)))⟩
      · rcases List.mem_cons.1 hb with rfl | hb
        · exact ⟨_, _, H6.out⟩
        · obtain rfl := List.mem_singleton.1 hb
          exact ⟨_, _, H7.out⟩
      · rw [← HL.out, Int.natCast_add, Int.natCast_add, Int.natCast_mul]
        exact h6
  case done =>
    rintro D xs W hD hg ⟨hmi, h6, h7, hk⟩ hK
    have c6 := h6.cell 0
    have f6 := h6.free 0
    have c7 := h7.cell 0
    have f7 := h7.free 0
    simp at c6 c7
    have hn : prevO bs i = none := prevV_none _ _ fun j hj => Falls.miss HM.out hg (by omega) hmi j (by omega) hj
    rw [Ho.out] at hn
    have Hn := Lib.hid hn
    have HKd := Lib.hid hK
    have Hk := Lib.hid hk
    have H6 := Lib.hid h6
    have H7 := Lib.hid h7
    clear hn hK hk h6 h7 hmi hg
    gi_wp2
    have hD1 : w.heap.size ≠ D := by have := Hc7.out.lt; have := Hk0.out.more; omega
    have hD2 : w.heap.size + 1 ≠ D := by have := Hc7.out.lt; have := Hk0.out.more; omega
    have hK2 : ((W.setCell ⟨w.heap.size, 0, none⟩ (.int .i64 0)).setCell ⟨w.heap.size + 1, 0, none⟩ (.bool false)).heap[D]? = some (.deferred (some [])) := by
      rw [put_other hD2, put_other hD1]
      exact HKd.out
    have h6 := has_put ((H6.out.put 0 (.int .i64 0)).beside ⟨w.heap.size + 1, 0, none⟩ (by simp) (.bool false)) D _ (.deferred none) hK2 rfl
    have h7 := has_put ((H7.out.beside ⟨w.heap.size, 0, none⟩ (by simp) (.int .i64 0)).put 0 (.bool false)) D _ (.deferred none) hK2 rfl
    have d6 := h6.cell 0
    have d7 := h7.cell 0
    simp at d6 d7
    refine ⟨by simp, .inl ⟨_, _, rfl, run_takeDeferred hK2, ?_⟩⟩
    refine ⟨.tuple #[.int .i64 0, .bool false], ?_, ?_, kept_put (((Hk.out).setCell _ _ (.inr (by first | (simp; done) | (simp; omega)))).setCell _ _ (.inr (by first | (simp; done) | (simp; omega)))) D _ (Nat.le_trans Hkw.out.more hD)⟩
    · simp [results, Tryd.results38, go_sem, d6, d7]
    · rw [Hn.out]
      rfl
  case stop =>
    rintro D c pre W hD ⟨t, hg⟩ ⟨⟨rfl, ys, x, rfl, hmi, hx, h6, h7⟩, hk⟩ hK
    have c6 := h6.cell 0
    have c7 := h7.cell 0
    simp at c6 c7
    have hf2 : prevO bs i = _ := Falls.found HM.out hg (by omega) hmi hx
    obtain ⟨r, g1, g2, g3⟩ := hg.split
    have ha0 : x.1.a = 0 := g3.2.1
    have hl : lenN x.1.v = Nat.log2 x.1.v + 1 := by unfold lenN; rw [if_neg hx]
    rw [Ho.out, show x.1.k * 64 + Nat.log2 x.1.v = x.1.k * 64 + x.1.a + lenN x.1.v - 1 by omega] at hf2
    have hge : 1 ≤ x.1.k * 64 + x.1.a + lenN x.1.v := by omega
    generalize x.1.k * 64 + x.1.a + lenN x.1.v = y at *
    have Hf2 := Lib.hid hf2
    have HKd := Lib.hid hK
    have Hk := Lib.hid hk
    have H6 := Lib.hid h6
    have H7 := Lib.hid h7
    clear hf2 hK hk h6 h7 hmi hg hx g1 g2 g3 ha0 hl
    gi_wp2
    have d6 := (has_put H6.out D _ (.deferred none) HKd.out rfl).cell 0
    have d7 := (has_put H7.out D _ (.deferred none) HKd.out rfl).cell 0
    simp only [List.getElem?_cons_zero] at d6 d7
    refine ⟨by simp, .inl ⟨_, _, rfl, run_takeDeferred HKd.out, ?_⟩⟩
    refine ⟨.tuple #[.int .i64 ((y : Nat) - 1), .bool true], ?_, ?_, kept_put Hk.out D _ (Nat.le_trans Hkw.out.more hD)⟩
    · simp [results, Tryd.results38, go_sem, d6, d7]
    · rw [Hf2.out]
      show _ = Ending.returned (.tuple #[.int .i64 (((y - 1 : Nat) : Nat) : Int), .bool true])
      rw [show (((y - 1 : Nat) : Nat) : Int) = (y : Int) - 1 by omega]

set_option maxRecDepth 100000 in
set_option maxHeartbeats 4000000 in
theorem prev_nil (w : World) (i : Int) (i1 : -9223372036854775808 ≤ i) (i2 : i ≤ 9223372036854775807) :
    Calls Tryd.prog 38 #[.pointer none, .int .i64 i] w fun e w' => e = .returned (.tuple #[.int .i64 0, .bool false]) ∧ Kept [] w w' := by
  refine (callsIn_wide (n := 5)).1 ?_
  refine callsIn_of_wp_marks Tryd.func38 rfl trivial ?_ rfl
  simp only [Tryd.ntmps38, List.size_toArray, List.length_cons, List.length_nil, Nat.reduceAdd, Nat.reduceSub, Array.replicate_succ, Array.replicate_zero, List.push_toArray, List.append_toArray, List.nil_append, List.cons_append]
  gi_wp2_with (fail)
  have hk3 : Kept [] w ((w.alloc (.cells #[.int .i64 0] 3)).alloc (.cells #[.bool false] 4)) := ((Kept.refl [] w).alloc _).alloc _
  have hc6 := (Has.new w 3 [.int .i64 0]).alloc (.cells #[.bool false] 4)
  have hc7 := Has.new (w.alloc (.cells #[.int .i64 0] 3)) 4 [.bool false]
  rw [World.size_alloc] at hc7
  have hz3 : ((w.alloc (.cells #[.int .i64 0] 3)).alloc (.cells #[.bool false] 4)).heap.size = w.heap.size + 1 + 1 := by simp
  obtain ⟨w3, hw3⟩ : ∃ w3, ((w.alloc (.cells #[.int .i64 0] 3)).alloc (.cells #[.bool false] 4)) = w3 := ⟨_, rfl⟩
  rw [hw3] at hk3 hz3 ⊢
  have hc6' : Has w3 w.heap.size 3 [.int .i64 0] := by rw [← hw3]; exact hc6
  have hc7' : Has w3 (w.heap.size + 1) 4 [.bool false] := by rw [← hw3]; exact hc7
  clear hc6 hc7 hw3
  have HL := Lib.hid (len_nil w3)
  have Hz3 := Lib.hid hz3
  have Hk3 := Lib.hid hk3
  have Hc6 := Lib.hid hc6'
  have Hc7 := Lib.hid hc7'
  clear hz3 hk3 hc6' hc7'
  refine ⟨trivial, (callsIn_wide.2 HL.out).mono ?_⟩
  rintro e w' ⟨rfl, rfl⟩
  gi_wp2_with (fail)
  refine ⟨trivial, (callsIn_wide.2 (down_ok 0 _ _ _)).mono ?_⟩
  rintro e0 w0 ⟨rfl, hw0⟩
  have hk0 : Kept [] w3 w0 := by rw [hw0]; exact ((Kept.refl [] w3).alloc _).alloc _
  have h2 := Has.new (w3.alloc (.cells #[.pointer none] 47)) 3 [.int .i64 (min i (-1))]
  rw [World.size_alloc, Hz3.out] at h2
  have h2' : Has w0 (w.heap.size + 1 + 1 + 1) 3 [.int .i64 (min i (-1))] := by rw [hw0]; exact h2
  clear hw0 h2
  rw [Hz3.out]
  have HR := Lib.hid h2'
  have Hk0 := Lib.hid hk0
  clear hk0 h2'
  gi_wp2_with (fail)
  have Hkw := Lib.hid (Hk3.out.trans Hk0.out)
  refine wpIn_rangeFunc_ownH rfl (by decide) (gf := 55) (lb := #[.pointer (some ⟨w.heap.size + 1 + 1 + 1, 0, none⟩), .pointer (some ⟨w.heap.size + 1 + 1, 0, none⟩)]) rfl trivial (enters_of Tryd.func55 (by kernel_rfl) rfl)
    (down_none 4 (by decide) (w.heap.size + 1 + 1 + 1) (w.heap.size + 1 + 1) (min i (-1)) (by omega) w0 HR.out)
    (fun h k => h.trans k) (fun W l o o' _ h hc _ => Keeps.put W l o o' h hc) (Below.refl _ _) (fun _ => rfl)
    (fun pre W => Has W w.heap.size 3 [.int .i64 0] ∧ Has W (w.heap.size + 1) 4 [.bool false] ∧ Kept [] w W)
    (fun _ _ _ => False)
    (OwnFrom.and own_has (OwnFrom.and own_has (own_kept Hkw.out.more)))
    (fun _ _ _ _ _ hs _ _ => hs)
    ⟨Hc6.out.keep0 Hk0.out, Hc7.out.keep0 Hk0.out, Hkw.out⟩
    (fun x a' W => False) (fun _ _ _ _ _ _ hs _ _ => hs)
    ?assign ?body ?done ?stop
  case assign => exact fun l pre x => absurd x.2.2.2.1 (by omega)
  case body => exact fun l pre x => absurd x.2.2.2.1 (by omega)
  case done =>
    rintro D xs W hD _ ⟨h6, h7, hk⟩ hK
    have c6 := h6.cell 0
    have f6 := h6.free 0
    have c7 := h7.cell 0
    have f7 := h7.free 0
    simp at c6 c7
    have HKd := Lib.hid hK
    have Hk := Lib.hid hk
    have H6 := Lib.hid h6
    have H7 := Lib.hid h7
    clear hK hk h6 h7
    gi_wp2
    have hD1 : w.heap.size ≠ D := by have := Hc7.out.lt; have := Hk0.out.more; omega
    have hD2 : w.heap.size + 1 ≠ D := by have := Hc7.out.lt; have := Hk0.out.more; omega
    have hK2 : ((W.setCell ⟨w.heap.size, 0, none⟩ (.int .i64 0)).setCell ⟨w.heap.size + 1, 0, none⟩ (.bool false)).heap[D]? = some (.deferred (some [])) := by
      rw [put_other hD2, put_other hD1]
      exact HKd.out
    have h6 := has_put ((H6.out.put 0 (.int .i64 0)).beside ⟨w.heap.size + 1, 0, none⟩ (by simp) (.bool false)) D _ (.deferred none) hK2 rfl
    have h7 := has_put ((H7.out.beside ⟨w.heap.size, 0, none⟩ (by simp) (.int .i64 0)).put 0 (.bool false)) D _ (.deferred none) hK2 rfl
    have d6 := h6.cell 0
    have d7 := h7.cell 0
    simp at d6 d7
    refine ⟨by simp, .inl ⟨_, _, rfl, run_takeDeferred hK2, ?_⟩⟩
    refine ⟨.tuple #[.int .i64 0, .bool false], ?_, ?_, kept_put (((Hk.out).setCell _ _ (.inr (by first | (simp; done) | (simp; omega)))).setCell _ _ (.inr (by first | (simp; done) | (simp; omega)))) D _ (Nat.le_trans Hkw.out.more hD)⟩
    · simp [results, Tryd.results38, go_sem, d6, d7]
    · rfl
  case stop =>
    rintro D c pre W _ h _
    exact h.elim
end Go.Proofs.YtijlaganpnoefaaDoor.Bt
