/-
  Several texts in one: BtSeek, BtNil, BtPrev, BtLay.
-/
import Derived.Test.YtoagghileebokaaGreatDoorG14
import Derived.Test.YtoagghileebokaaGreatDoorG19
/-
  The contracts of seek, Next and NextClear.
-/
namespace Go.Proofs.YtoagghileebokaaGreatDoor.Bt
open Go.RowKit Go.Proofs.YtoagghileebokaaGreatDoor.Ar Go.Proofs.YtoagghileebokaaGreatDoor.Wd Go.Shelf Go.Sort
set_option linter.unusedVariables false
attribute [local go_sem] Oper.semAt_some

/-- Where the lowest bit of a piece is that is other than those of m. -/
def lowX (m : Nat) (x : Pc) : Nat := lowFrom (x.v ^^^ m) 0 64
def hit (m : Nat) (x : Pc) : Prop := lowX m x < x.n
/-- The bits that are other than those of m. -/
def other (bs : List Bool) (m : Nat) (j : Nat) : Bool := bit bs j == decide (m = 0)
theorem piece_bit {bs : List Bool} {ws : List Int} (h : Means bs ws) {m : Nat} (hm : m = 0 ∨ m = 18446744073709551615) {e s : Nat} (he : e ≤ bs.length) {x : Pc} (hx : isAt (· = ws) e s x) (hse : s < e) (hn : x.a + x.n ≤ 64) (j : Nat) (hj : j < x.n) :
    (x.v ^^^ m).testBit j = other bs m (s + j) := by
  obtain ⟨h2, h3, h4, ws', h5, h6⟩ := hx
  subst h5
  rw [flip_bit _ _ _ (by omega) hm, h6, h3, h.field s x.n j (by omega) (by omega) hj]
  rfl
theorem Goes.miss {bs : List Bool} {ws : List Int} (h : Means bs ws) {m : Nat} (hm : m = 0 ∨ m = 18446744073709551615) {e : Nat} (he : e ≤ bs.length) {nw : Nat} : ∀ {xs : List (Pcs nw)} {s t : Nat}, Goes (· = ws) e s xs t → (∀ x ∈ xs, ¬ hit m x.1) → ∀ j, s ≤ j → j < t → other bs m j = false
  | [], s, t, hg, _, j, h1, h2 => by
    have h' : t = s := hg
    omega
  | x :: xs, s, t, ⟨h1, h2, h7⟩, ha, j, j1, j2 => by
    by_cases hj : j < s + x.1.n
    · have hx := low_miss (x.1.v ^^^ m) x.1.n (by have := x.2.2.1; omega) (ha x (by simp)) (j - s) (by omega)
      rw [piece_bit h hm he h2 h1 x.2.2.1 (j - s) (by omega), show s + (j - s) = j by omega] at hx
      exact hx
    · exact Goes.miss h hm he h7 (fun y hy => ha y (by simp [hy])) j (by omega) j2
theorem Goes.split {G : List Int → Prop} {e nw : Nat} {x : Pcs nw} : ∀ {xs : List (Pcs nw)} {s t : Nat}, Goes G e s (xs ++ [x]) t → ∃ r, Goes G e s xs r ∧ r < e ∧ isAt G e r x.1
  | [], s, t, ⟨h1, h2, h3⟩ => ⟨s, rfl, h1, h2⟩
  | y :: ys, s, t, ⟨h1, h2, h3⟩ => let ⟨r, a, b, c⟩ := Goes.split h3; ⟨r, ⟨h1, h2, a⟩, b, c⟩
theorem Goes.found {bs : List Bool} {ws : List Int} (h : Means bs ws) {m : Nat} (hm : m = 0 ∨ m = 18446744073709551615) {e : Nat} (he : e ≤ bs.length) {nw : Nat} {xs : List (Pcs nw)} {x : Pcs nw} {s t : Nat} (hg : Goes (· = ws) e s (xs ++ [x]) t) (ha : ∀ y ∈ xs, ¬ hit m y.1) (hx : hit m x.1) (hs : s ≤ e) :
    nextV (other bs m) (e - s) s = some (x.1.k * 64 + x.1.a + lowX m x.1) := by
  obtain ⟨r, h1, h2, h3⟩ := hg.split
  have hr := h1.length
  obtain ⟨l1, l2⟩ := low_hit (x.1.v ^^^ m) x.1.n (by have := x.2.2.1; omega) hx
  have hl : lowX m x.1 < x.1.n := hx
  have hn := h3.2.2.1
  have e1 : x.1.k * 64 + x.1.a + lowX m x.1 = s + (r + lowX m x.1 - s) := by rw [h3.1, h3.2.1]; omega
  rw [e1]
  refine nextV_hit _ _ _ _ (by omega) (fun j hj => ?_) ?_
  · by_cases hj2 : s + j < r
    · exact Goes.miss h hm he h1 ha (s + j) (by omega) hj2
    · have hb := l2 (s + j - r) (show s + j - r < lowFrom (x.1.v ^^^ m) 0 64 by have : lowX m x.1 = lowFrom (x.1.v ^^^ m) 0 64 := rfl; omega)
      rw [piece_bit h hm he h3 h2 x.2.2.1 (s + j - r) (by omega), show r + (s + j - r) = s + j by omega] at hb
      exact hb
  · have hb := l1
    rw [show lowFrom (x.1.v ^^^ m) 0 64 = lowX m x.1 from rfl, piece_bit h hm he h3 h2 x.2.2.1 (lowX m x.1) hl] at hb
    rw [show s + (r + lowX m x.1 - s) = r + lowX m x.1 by omega]
    exact hb
theorem tableKeep {w w' : World} (h : Table w) (k : Kept [] w w') : Table w' := fun i hi => by
  have hc := h i hi
  rw [← hc]
  exact World.cell?_of_block (k.old _ (World.block_lt_of_cell? w _ hc) (by simp))

theorem has_put {W : World} {b : Nat} {t : TypeId} {cs : List Value} (h : Has W b t cs) (D : Nat) (o o' : Obj) (hD : W.heap[D]? = some o) (hc : o.isCells = false) : Has (W.putObj D o') b t cs := (CellsKept.put (S := []) W D o o' hD hc).has (by simp) h
theorem put_other {W : World} {p : Addr} {u : Value} {D : Nat} (hD : p.block ≠ D) : (W.setCell p u).heap[D]? = W.heap[D]? := heap_setCell_other W p D u (fun e => hD e.symm)
theorem up_reads {p q N : Nat} {ws : List Int} (w : World) (h : Vec w p q N ws) (i e : Nat) :
    Calls Tryz.prog 98 #[.pointer (some ⟨p, 0, none⟩), .int .i64 i, .int .i64 e] w fun r w' => r = .returned (.func (.func 130) #[] #[.pointer (some ⟨w.heap.size + 1, 0, none⟩), .pointer (some ⟨w.heap.size + 2, 0, none⟩), .pointer (some ⟨w.heap.size, 0, none⟩)]) ∧ Reads (· = ws) w' p q N (w.heap.size + 1) (w.heap.size + 2) w.heap.size i e ∧ Kept [] w w' := by
  refine (up_ok 0 i e (some ⟨p, 0, none⟩) w).mono ?_
  rintro r w0 ⟨rfl, rfl⟩
  have hk0 : Kept [] w (((w.alloc (.cells #[.pointer (some ⟨p, 0, none⟩)] 70)).alloc (.cells #[.int .i64 (i : Int)] 3)).alloc (.cells #[.int .i64 (e : Int)] 3)) := (((Kept.refl [] w).alloc _).alloc _).alloc _
  have h1 := ((Has.new w 70 [.pointer (some ⟨p, 0, none⟩)]).alloc (.cells #[.int .i64 (i : Int)] 3)).alloc (.cells #[.int .i64 (e : Int)] 3)
  have h2 := (Has.new (w.alloc (.cells #[.pointer (some ⟨p, 0, none⟩)] 70)) 3 [.int .i64 (i : Int)]).alloc (.cells #[.int .i64 (e : Int)] 3)
  have h3 := Has.new ((w.alloc (.cells #[.pointer (some ⟨p, 0, none⟩)] 70)).alloc (.cells #[.int .i64 (i : Int)] 3)) 3 [.int .i64 (e : Int)]
  rw [World.size_alloc] at h2
  rw [World.size_alloc, World.size_alloc] at h3
  exact ⟨rfl, ⟨h.head.keep0 hk0, ⟨ws, rfl, h.row.keep0 hk0⟩, h2, h3, h1⟩, hk0⟩

set_option maxRecDepth 100000 in
set_option maxHeartbeats 4000000 in
theorem seek_yes (bs : List Bool) (p q : Nat) (w : World) (hv : Bv w p q bs) (hT : Table w) (i : Int) (i1 : -9223372036854775808 ≤ i) (i2 : i ≤ 9223372036854775807) (m : Nat) (hm : m = 0 ∨ m = 18446744073709551615) (o : Option Nat) (ho : nextV (other bs m) (bs.length - i.toNat) i.toNat = o) :
    Calls Tryz.prog 155 #[.pointer (some ⟨p, 0, none⟩), .int .i64 i, .int .u64 m] w fun e w' => e = .returned (.tuple #[.int .i64 (atI o), .bool o.isSome]) ∧ Kept [] w w' := by
  obtain ⟨ws, hV, hM⟩ := hv
  have hf := hV.few
  have hpz : p < w.heap.size := hV.head.lt
  have hqz : q < w.heap.size := hV.row.lt
  have HV := Lib.hid hV
  have HM := Lib.hid hM
  have HT := Lib.hid hT
  have Hm := Lib.hid hm
  have Ho := Lib.hid ho
  clear hV hM hT hm ho
  refine (callsIn_wide (n := 5)).1 ?_
  refine callsIn_of_wp_marks Tryz.func155 rfl trivial ?_ rfl
  simp only [Tryz.ntmps155, List.size_toArray, List.length_cons, List.length_nil, Nat.reduceAdd, Nat.reduceSub, Array.replicate_succ, Array.replicate_zero, List.push_toArray, List.append_toArray, List.nil_append, List.cons_append]
  gi_wp2_with (fail)
  have hk3 : Kept [] w (((w.alloc (.cells #[.int .u64 m] 55)).alloc (.cells #[.int .i64 0] 3)).alloc (.cells #[.bool false] 4)) := (((Kept.refl [] w).alloc _).alloc _).alloc _
  have hc5 := ((Has.new w 55 [.int .u64 (m : Int)]).alloc (.cells #[.int .i64 0] 3)).alloc (.cells #[.bool false] 4)
  have hc6 := (Has.new (w.alloc (.cells #[.int .u64 (m : Int)] 55)) 3 [.int .i64 0]).alloc (.cells #[.bool false] 4)
  have hc7 := Has.new ((w.alloc (.cells #[.int .u64 (m : Int)] 55)).alloc (.cells #[.int .i64 0] 3)) 4 [.bool false]
  rw [World.size_alloc] at hc6
  rw [World.size_alloc, World.size_alloc] at hc7
  have hz3 : (((w.alloc (.cells #[.int .u64 m] 55)).alloc (.cells #[.int .i64 0] 3)).alloc (.cells #[.bool false] 4)).heap.size = w.heap.size + 1 + 1 + 1 := by simp
  obtain ⟨w3, hw3⟩ : ∃ w3, (((w.alloc (.cells #[.int .u64 m] 55)).alloc (.cells #[.int .i64 0] 3)).alloc (.cells #[.bool false] 4)) = w3 := ⟨_, rfl⟩
  have hw3' : (((w.alloc (.cells [.int .u64 (m : Int)].toArray 55)).alloc (.cells #[.int .i64 0] 3)).alloc (.cells #[.bool false] 4)) = w3 := hw3
  rw [hw3] at hk3 hz3 ⊢
  rw [hw3'] at hc5
  have hc6' : Has w3 (w.heap.size + 1) 3 [.int .i64 0] := by rw [← hw3]; exact hc6
  have hc7' : Has w3 (w.heap.size + 1 + 1) 4 [.bool false] := by rw [← hw3]; exact hc7
  clear hc6 hc7 hw3 hw3'
  have hV3 := HV.out.keep0 hk3
  have HL := Lib.hid (len_ok w3 hV3)
  have HU := Lib.hid (up_reads w3 hV3 i.toNat bs.length)
  have Hz3 := Lib.hid hz3
  have Hk3 := Lib.hid hk3
  have Hc5 := Lib.hid hc5
  have Hc6 := Lib.hid hc6'
  have Hc7 := Lib.hid hc7'
  clear hV3 hz3 hk3 hc5 hc6' hc7'
  refine ⟨trivial, (callsIn_wide.2 HL.out).mono ?_⟩
  rintro e w' ⟨rfl, rfl⟩
  have Emax := Lib.hid (show max i 0 = ((i.toNat : Nat) : Int) by omega)
  gi_wp2_with (fail)
  rw [Emax.out]
  refine ⟨trivial, (callsIn_wide.2 HU.out).mono ?_⟩
  rintro e0 w0 ⟨rfl, hR, hk0⟩
  rw [Hz3.out] at hR ⊢
  have HR := Lib.hid hR
  have Hk0 := Lib.hid hk0
  clear hR hk0
  gi_wp2_with (fail)
  have Hkw := Lib.hid (Hk3.out.trans Hk0.out)
  refine wpIn_rangeFunc_ownH rfl (by decide) (gf := 130) (lb := #[.pointer (some ⟨w.heap.size + 1 + 1 + 1 + 1, 0, none⟩), .pointer (some ⟨w.heap.size + 1 + 1 + 1 + 2, 0, none⟩), .pointer (some ⟨w.heap.size + 1 + 1 + 1, 0, none⟩)]) rfl trivial (enters_of Tryz.func130 (by kernel_rfl) rfl)
    (up_stops 4 (by decide) (· = ws) (good_of HV.out) [] p q bs.length (w.heap.size + 1 + 1 + 1 + 1) (w.heap.size + 1 + 1 + 1 + 2) (w.heap.size + 1 + 1 + 1) i.toNat bs.length hf (Nat.le_refl _) (by simp) w0 (by simp) HR.out)
    (fun h k => h.trans k) (fun W l o o' _ h hc _ => Keeps.put W l o o' h hc) (Below.refl _ _) (fun _ => rfl)
    (fun pre W => (∀ x ∈ pre, ¬ hit m x.1) ∧ Has W w.heap.size 55 [.int .u64 (m : Int)] ∧ Has W (w.heap.size + 1) 3 [.int .i64 0] ∧ Has W (w.heap.size + 1 + 1) 4 [.bool false] ∧ Kept [] w W)
    (fun c pre W => (c = .ret ∧ ∃ ys x, pre = ys ++ [x] ∧ (∀ y ∈ ys, ¬ hit m y.1) ∧ hit m x.1 ∧ Has W (w.heap.size + 1) 3 [.int .i64 ((x.1.k * 64 + x.1.a + lowX m x.1 : Nat) : Int)] ∧ Has W (w.heap.size + 1 + 1) 4 [.bool true]) ∧ Kept [] w W)
    (OwnFrom.and (ownFrom_pure _ _) (OwnFrom.and own_has (OwnFrom.and own_has (OwnFrom.and own_has (own_kept Hkw.out.more)))))
    (fun c => OwnFrom.and (fun pre X Y row hs hg hr => by
      obtain ⟨hc, ys, x, h1, h2, h3, h4, h5⟩ := hs
      exact ⟨hc, ys, x, h1, h2, h3, own_has (β := Unit) (f := fun _ => [.int .i64 ((x.1.k * 64 + x.1.a + lowX m x.1 : Nat) : Int)]) () X Y row h4 hg hr, own_has (β := Unit) (f := fun _ => [.bool true]) () X Y row h5 hg hr⟩) (own_kept Hkw.out.more))
    ⟨(by simp), Hc5.out.keep0 Hk0.out, Hc6.out.keep0 Hk0.out, Hc7.out.keep0 Hk0.out, Hkw.out⟩
    (fun x a' W => ∃ Bx, Has W Bx 174 [.int .i64 ((x.1.k : Nat) : Int), .int .i64 ((x.1.a : Nat) : Int), .int .i64 ((x.1.n : Nat) : Int)] ∧ a' = { tmps := #[.pointer (some ⟨p, 0, none⟩), .int .i64 i, .int .u64 m, undef, undef, .pointer (some ⟨w.heap.size, 0, none⟩), .pointer (some ⟨w.heap.size + 1, 0, none⟩), .pointer (some ⟨w.heap.size + 1 + 1, 0, none⟩), .pointer (some ⟨Bx, 0, none⟩), .int .u64 ((x.1.v : Nat) : Int), undef, .pointer (some ⟨p, 0, none⟩), .int .i64 i, .int .i64 (max i 0), .pointer (some ⟨p, 0, none⟩), .int .i64 (bs.length : Nat), .func (.func 130) #[] #[.pointer (some ⟨w.heap.size + 1 + 1 + 1 + 1, 0, none⟩), .pointer (some ⟨w.heap.size + 1 + 1 + 1 + 2, 0, none⟩), .pointer (some ⟨w.heap.size + 1 + 1 + 1, 0, none⟩)], pieceV x.1.k x.1.a x.1.n, .int .u64 ((x.1.v : Nat) : Int), undef, undef, undef, undef, undef, undef, undef, undef, undef, undef, undef, undef], defers := [] })
    (fun x a' _ X Y row hs hg hr => by
      obtain ⟨Bx, h2, h3⟩ := hs
      exact ⟨Bx, own_has (β := Unit) (f := fun _ => [.int .i64 ((x.1.k : Nat) : Int), .int .i64 ((x.1.a : Nat) : Int), .int .i64 ((x.1.n : Nat) : Int)]) () X Y row h2 hg hr, h3⟩)
    ?assign ?body ?done ?stop
  case assign =>
    rintro l pre x W K hi hK
    unfold encs pieceV
    have HK := Lib.hid hK
    have HI := Lib.hid hi
    clear hi hK
    gi_wp2
    have hkn : Kept [] W (W.alloc (.cells #[.int .i64 ((x.1.k : Nat) : Int), .int .i64 ((x.1.a : Nat) : Int), .int .i64 ((x.1.n : Nat) : Int)] 174)) := (Kept.refl [] W).alloc _
    exact HK.out _ _ (keepsFrom_of hkn (by simp)) (Keeps.of (CellsKept.of_kept hkn) (by simp)) ⟨HI.out.1, HI.out.2.1.keep0 hkn, HI.out.2.2.1.keep0 hkn, HI.out.2.2.2.1.keep0 hkn, HI.out.2.2.2.2.trans hkn⟩ ⟨W.heap.size, Has.new W _ _, rfl⟩
  case body =>
    rintro l pre x a' W _ _ ⟨hmi, h5, h6, h7, hk⟩ ⟨Bx, hX, rfl⟩ hlen
    have c5 := h5.cell 0
    have c6 := h6.cell 0
    have f6 := h6.free 0
    have c7 := h7.cell 0
    have f7 := h7.free 0
    have x0 := hX.cell 0
    have x1 := hX.cell 1
    have x2 := hX.cell 2
    simp at c5 c6 c7 x0 x1 x2
    obtain ⟨hx1, hx2, hx3, hx4⟩ := x.2
    have hml : m < 18446744073709551616 := by have := Hm.out; omega
    have Ex := Lib.hid (u64_xor_nat x.1.v m hx4 hml)
    have hxl : x.1.v ^^^ m < 18446744073709551616 := Nat.xor_lt_two_pow (n := 64) hx4 hml
    have hLow : Calls Tryz.prog 167 #[.int .u64 ((x.1.v ^^^ m : Nat) : Int)] W fun e w' => e = .returned (.int .i64 ((lowX m x.1 : Nat) : Int)) ∧ W = w' := by
      have h := low_any ((x.1.v ^^^ m : Nat) : Int) (by omega) (by omega) W (tableKeep HT.out hk)
      unfold lowV at h
      rw [Int.toNat_natCast] at h
      exact h
    have hLl : lowX m x.1 ≤ 64 := by have := low_le (x.1.v ^^^ m) 0 64; unfold lowX; omega
    have hhit : hit m x.1 ↔ lowX m x.1 < x.1.n := Iff.rfl
    obtain ⟨L, hL⟩ : ∃ L, L = lowX m x.1 := ⟨_, rfl⟩
    rw [← hL] at hLow hLl hhit
    have hkb : x.1.k ≤ 65536 := by omega
    have Hf := fun W => Lib.hid (first_ok x.1.k x.1.a x.1.n hkb (by omega) W)
    have HLow := Lib.hid hLow
    have HL := Lib.hid hL
    have Hhit := Lib.hid hhit
    have Hmi := Lib.hid hmi
    have H5 := Lib.hid h5
    have H6 := Lib.hid h6
    have H7 := Lib.hid h7
    have Hk := Lib.hid hk
    have HX := Lib.hid hX
    clear hLow hL hhit hmi h5 h6 h7 hk hX
    by_cases hlt : L < x.1.n
    · gi_wp2_with (fail)
      rw [Ex.out]
      refine ⟨trivial, (CallsIn.inRound l (callsIn_wide.2 HLow.out)).mono ?_⟩
      rintro e1 W1 ⟨rfl, rfl⟩
      gi_wp2_with (fail)
      refine ⟨trivial, (CallsIn.inRound l (callsIn_wide.2 (Hf W).out)).mono ?_⟩
      rintro e1 W1 ⟨rfl, hk1⟩
      have c6 := (H6.out.keep0 hk1).cell 0
      have f6 := (H6.out.keep0 hk1).free 0
      have c7 := (H7.out.keep0 hk1).cell 0
      have f7 := (H7.out.keep0 hk1).free 0
      simp at c6 c7
      have Hk1 := Lib.hid hk1
      clear hk1
      gi_wp2_with (fail)
      have hKS : Kept [w.heap.size + 1, w.heap.size + 1 + 1] W ((W1.setCell ⟨w.heap.size + 1, 0, none⟩ (.int .i64 ((x.1.k : Int) * 64 + (x.1.a : Int) + (L : Int)))).setCell ⟨w.heap.size + 1 + 1, 0, none⟩ (.bool true)) :=
        ((Hk1.out.none _).setCell _ _ (.inl (by simp))).setCell _ _ (.inl (by simp))
      have h6 := ((H6.out.keep0 Hk1.out).put 0 (.int .i64 ((x.1.k : Int) * 64 + (x.1.a : Int) + (L : Int)))).beside ⟨w.heap.size + 1 + 1, 0, none⟩ (by simp) (.bool true)
      have h7 := ((H7.out.keep0 Hk1.out).beside ⟨w.heap.size + 1, 0, none⟩ (by simp) (.int .i64 ((x.1.k : Int) * 64 + (x.1.a : Int) + (L : Int)))).put 0 (.bool true)
      refine ⟨keepsFrom_of hKS (fun b hb => ?_), ⟨rfl, pre, x, rfl, Hmi.out, Hhit.out.2 hlt, ?_, h7⟩, ((Hk.out.trans Hk1.out).setCell _ _ (.inr (by first | (simp; done) | (simp; omega)))).setCell _ _ (.inr (by first | (simp; done) | (simp; omega)))⟩
      · rcases List.mem_cons.1 hb with rfl | hb
        · exact ⟨_, _, H6.out⟩
        · obtain rfl := List.mem_singleton.1 hb
          exact ⟨_, _, H7.out⟩
      · rw [← HL.out, Int.natCast_add, Int.natCast_add, Int.natCast_mul]
        exact h6
    · gi_wp2_with (fail)
      rw [Ex.out]
      refine ⟨trivial, (CallsIn.inRound l (callsIn_wide.2 HLow.out)).mono ?_⟩
      rintro e1 W1 ⟨rfl, rfl⟩
      gi_wp2_with (fail)
      refine ⟨KeepsFrom.refl _ _, Keeps.of (CellsKept.of_kept (Kept.refl _ W)) (by simp), fun y hy => ?_, H5.out, H6.out, H7.out, Hk.out⟩
      rcases List.mem_append.1 hy with h | h
      · exact Hmi.out y h
      · rw [List.mem_singleton.1 h, Hhit.out]
        exact hlt
  case done =>
    rintro D xs W hD ⟨t, hg, ht⟩ ⟨hmi, h5, h6, h7, hk⟩ hK
    have c6 := h6.cell 0
    have f6 := h6.free 0
    have c7 := h7.cell 0
    have f7 := h7.free 0
    simp at c6 c7
    have ht2 : bs.length - i.toNat = 0 ∨ t = bs.length := by
      by_cases hi : i.toNat ≤ bs.length
      · exact .inr (by have := hg.le hi; omega)
      · exact .inl (by omega)
    have hn : nextV (other bs m) (bs.length - i.toNat) i.toNat = none := nextV_none _ _ _ fun j hj => Goes.miss HM.out Hm.out (Nat.le_refl _) hg hmi (i.toNat + j) (by omega) (by omega)
    rw [Ho.out] at hn
    have Hn := Lib.hid hn
    have HKd := Lib.hid hK
    have Hk := Lib.hid hk
    have H6 := Lib.hid h6
    have H7 := Lib.hid h7
    clear hn hK hk h6 h7 hmi hg ht2
    gi_wp2
    have hD1 : w.heap.size + 1 ≠ D := by have := Hc7.out.lt; have := Hk0.out.more; omega
    have hD2 : w.heap.size + 1 + 1 ≠ D := by have := Hc7.out.lt; have := Hk0.out.more; omega
    have hK2 : ((W.setCell ⟨w.heap.size + 1, 0, none⟩ (.int .i64 0)).setCell ⟨w.heap.size + 1 + 1, 0, none⟩ (.bool false)).heap[D]? = some (.deferred (some [])) := by
      rw [put_other hD2, put_other hD1]
      exact HKd.out
    have h6 := has_put ((H6.out.put 0 (.int .i64 0)).beside ⟨w.heap.size + 1 + 1, 0, none⟩ (by simp) (.bool false)) D _ (.deferred none) hK2 rfl
    have h7 := has_put ((H7.out.beside ⟨w.heap.size + 1, 0, none⟩ (by simp) (.int .i64 0)).put 0 (.bool false)) D _ (.deferred none) hK2 rfl
    have d6 := h6.cell 0
    have d7 := h7.cell 0
    simp at d6 d7
    refine ⟨by simp, .inl ⟨_, _, rfl, run_takeDeferred hK2, ?_⟩⟩
    refine ⟨.tuple #[.int .i64 0, .bool false], ?_, ?_, kept_put (((Hk.out).setCell _ _ (.inr (by first | (simp; done) | (simp; omega)))).setCell _ _ (.inr (by first | (simp; done) | (simp; omega)))) D _ (Nat.le_trans Hkw.out.more hD)⟩
    · simp [results, Tryz.results155, go_sem, d6, d7]
    · rw [Hn.out]
      rfl
  case stop =>
    rintro D c pre W hD ⟨t, hg⟩ ⟨⟨rfl, ys, x, rfl, hmi, hx, h6, h7⟩, hk⟩ hK
    have c6 := h6.cell 0
    have c7 := h7.cell 0
    simp at c6 c7
    have hfnd : ∃ r, r = x.1.k * 64 + x.1.a + lowX m x.1 := ⟨_, rfl⟩
    by_cases hi : i.toNat ≤ bs.length
    · have hf2 := Goes.found HM.out Hm.out (Nat.le_refl _) hg hmi hx hi
      rw [Ho.out] at hf2
      have Hf2 := Lib.hid hf2
      have HKd := Lib.hid hK
      have Hk := Lib.hid hk
      have H6 := Lib.hid h6
      have H7 := Lib.hid h7
      clear hf2 hK hk h6 h7 hmi hg hx hfnd
      gi_wp2
      have d6 := (has_put H6.out D _ (.deferred none) HKd.out rfl).cell 0
      have d7 := (has_put H7.out D _ (.deferred none) HKd.out rfl).cell 0
      simp only [List.getElem?_cons_zero] at d6 d7
      refine ⟨by simp, .inl ⟨_, _, rfl, run_takeDeferred HKd.out, ?_⟩⟩
      refine ⟨.tuple #[.int .i64 ((x.1.k * 64 + x.1.a + lowX m x.1 : Nat) : Int), .bool true], ?_, ?_, kept_put Hk.out D _ (Nat.le_trans Hkw.out.more hD)⟩
      · simp [results, Tryz.results155, go_sem, d6, d7]
      · rw [Hf2.out]
        rfl
    · obtain ⟨r, h1, h2, _⟩ := hg.split
      have := h1.length
      omega
end Go.Proofs.YtoagghileebokaaGreatDoor.Bt

/-
  The loops over the pieces of no vector; seek, Next and NextClear, whole.
-/
namespace Go.Proofs.YtoagghileebokaaGreatDoor.Bt
open Go.RowKit Go.Proofs.YtoagghileebokaaGreatDoor.Ar Go.Proofs.YtoagghileebokaaGreatDoor.Wd Go.Shelf Go.Sort
set_option linter.unusedVariables false
attribute [local go_sem] Oper.semAt_some

/-- Upwards from i to below 0: no round. -/
theorem up_none (n : Nat) (hn : 1 ≤ n) (bi be bb : Nat) (i : Nat) (w : World) (h1 : Has w bi 3 [.int .i64 (i : Int)]) (h2 : Has w be 3 [.int .i64 0]) :
    SeqStopsK Fence.wide n Tryz.prog 130 #[.pointer (some ⟨bi, 0, none⟩), .pointer (some ⟨be, 0, none⟩), .pointer (some ⟨bb, 0, none⟩)] (encs (nw := 0)) (Keeps (fun _ => True) [] 0) (fun xs => xs = []) (fun _ => False) 0 w := by
  intro l J Jx W hW hJ _ hY h0
  have ci := (h1.keep0 (Kept.ofBelow hW [])).cell 0
  have ce := (h2.keep0 (Kept.ofBelow hW [])).cell 0
  simp at ci ce
  have H0 := Lib.hid h0
  clear hJ hY h0
  refine callsIn_of_wp Tryz.func130 rfl trivial ?_ rfl
  simp only [Tryz.ntmps130, List.size_toArray, List.length_cons, List.length_nil, Nat.reduceAdd, Nat.reduceSub, Array.replicate_succ, Array.replicate_zero, List.push_toArray, List.append_toArray, List.nil_append, List.cons_append]
  have hlt : ¬ (i : Int) < 0 := by omega
  gi_wp2
  gi_loopw [5] (fun v wr => v = .int .i64 (i : Int) ∧ W = wr) (fun v _ => 0)
  case atStart => exact ⟨rfl, rfl⟩
  case round =>
    obtain ⟨rfl, rfl⟩ := hrel
    gi_wp2_with (fail)
    go_end0
    exact ⟨⟨_, rfl⟩, .inl ⟨[], rfl, H0.out⟩⟩
set_option maxRecDepth 100000 in
set_option maxHeartbeats 4000000 in
theorem seek_nil (w : World) (i : Int) (i1 : -9223372036854775808 ≤ i) (i2 : i ≤ 9223372036854775807) (m : Nat) :
    Calls Tryz.prog 155 #[.pointer none, .int .i64 i, .int .u64 m] w fun e w' => e = .returned (.tuple #[.int .i64 0, .bool false]) ∧ Kept [] w w' := by
  refine (callsIn_wide (n := 5)).1 ?_
  refine callsIn_of_wp_marks Tryz.func155 rfl trivial ?_ rfl
  simp only [Tryz.ntmps155, List.size_toArray, List.length_cons, List.length_nil, Nat.reduceAdd, Nat.reduceSub, Array.replicate_succ, Array.replicate_zero, List.push_toArray, List.append_toArray, List.nil_append, List.cons_append]
  gi_wp2_with (fail)
  have hk3 : Kept [] w (((w.alloc (.cells #[.int .u64 m] 55)).alloc (.cells #[.int .i64 0] 3)).alloc (.cells #[.bool false] 4)) := (((Kept.refl [] w).alloc _).alloc _).alloc _
  have hc6 := (Has.new (w.alloc (.cells #[.int .u64 (m : Int)] 55)) 3 [.int .i64 0]).alloc (.cells #[.bool false] 4)
  have hc7 := Has.new ((w.alloc (.cells #[.int .u64 (m : Int)] 55)).alloc (.cells #[.int .i64 0] 3)) 4 [.bool false]
  rw [World.size_alloc] at hc6
  rw [World.size_alloc, World.size_alloc] at hc7
  have hz3 : (((w.alloc (.cells #[.int .u64 m] 55)).alloc (.cells #[.int .i64 0] 3)).alloc (.cells #[.bool false] 4)).heap.size = w.heap.size + 1 + 1 + 1 := by simp
  obtain ⟨w3, hw3⟩ : ∃ w3, (((w.alloc (.cells #[.int .u64 m] 55)).alloc (.cells #[.int .i64 0] 3)).alloc (.cells #[.bool false] 4)) = w3 := ⟨_, rfl⟩
  have hw3' : (((w.alloc (.cells [.int .u64 (m : Int)].toArray 55)).alloc (.cells #[.int .i64 0] 3)).alloc (.cells #[.bool false] 4)) = w3 := hw3
  rw [hw3] at hk3 hz3 ⊢
  have hc6' : Has w3 (w.heap.size + 1) 3 [.int .i64 0] := by rw [← hw3]; exact hc6
  have hc7' : Has w3 (w.heap.size + 1 + 1) 4 [.bool false] := by rw [← hw3]; exact hc7
  clear hc6 hc7 hw3 hw3'
  have HL := Lib.hid (len_nil w3)
  have Hz3 := Lib.hid hz3
  have Hk3 := Lib.hid hk3
  have Hc6 := Lib.hid hc6'
  have Hc7 := Lib.hid hc7'
  clear hz3 hk3 hc6' hc7'
  refine ⟨trivial, (callsIn_wide.2 HL.out).mono ?_⟩
  rintro e w' ⟨rfl, rfl⟩
  have Emax := Lib.hid (show max i 0 = ((i.toNat : Nat) : Int) by omega)
  gi_wp2_with (fail)
  rw [Emax.out]
  refine ⟨trivial, (callsIn_wide.2 (up_ok 0 _ _ _ _)).mono ?_⟩
  rintro e0 w0 ⟨rfl, hw0⟩
  have hk0 : Kept [] w3 w0 := by rw [hw0]; exact (((Kept.refl [] w3).alloc _).alloc _).alloc _
  have h1 := (Has.new (w3.alloc (.cells #[.pointer none] 70)) 3 [.int .i64 ((i.toNat : Nat) : Int)]).alloc (.cells #[.int .i64 0] 3)
  have h2 := Has.new ((w3.alloc (.cells #[.pointer none] 70)).alloc (.cells #[.int .i64 ((i.toNat : Nat) : Int)] 3)) 3 [.int .i64 0]
  rw [World.size_alloc, Hz3.out] at h1
  rw [World.size_alloc, World.size_alloc, Hz3.out] at h2
  have h1' : Has w0 (w.heap.size + 1 + 1 + 1 + 1) 3 [.int .i64 ((i.toNat : Nat) : Int)] := by rw [hw0]; exact h1
  have h2' : Has w0 (w.heap.size + 1 + 1 + 1 + 2) 3 [.int .i64 0] := by rw [hw0]; exact h2
  clear hw0 h1 h2
  rw [Hz3.out]
  have H1 := Lib.hid h1'
  have H2 := Lib.hid h2'
  have Hk0 := Lib.hid hk0
  clear hk0 h1' h2'
  gi_wp2_with (fail)
  have Hkw := Lib.hid (Hk3.out.trans Hk0.out)
  refine wpIn_rangeFunc_ownH rfl (by decide) (gf := 130) (lb := #[.pointer (some ⟨w.heap.size + 1 + 1 + 1 + 1, 0, none⟩), .pointer (some ⟨w.heap.size + 1 + 1 + 1 + 2, 0, none⟩), .pointer (some ⟨w.heap.size + 1 + 1 + 1, 0, none⟩)]) rfl trivial (enters_of Tryz.func130 (by kernel_rfl) rfl)
    (up_none 4 (by decide) (w.heap.size + 1 + 1 + 1 + 1) (w.heap.size + 1 + 1 + 1 + 2) (w.heap.size + 1 + 1 + 1) i.toNat w0 H1.out H2.out)
    (fun h k => h.trans k) (fun W l o o' _ h hc _ => Keeps.put W l o o' h hc) (Below.refl _ _) (fun _ => rfl)
    (fun pre W => Has W (w.heap.size + 1) 3 [.int .i64 0] ∧ Has W (w.heap.size + 1 + 1) 4 [.bool false] ∧ Kept [] w W)
    (fun _ _ _ => False)
    (OwnFrom.and own_has (OwnFrom.and own_has (own_kept Hkw.out.more)))
    (fun _ _ _ _ _ hs _ _ => hs)
    ⟨Hc6.out.keep0 Hk0.out, Hc7.out.keep0 Hk0.out, Hkw.out⟩
    (fun x a' W => False) (fun _ _ _ _ _ _ hs _ _ => hs)
    ?assign ?body ?done ?stop
  case assign => exact fun l pre x => absurd x.2.2.2.1 (by omega)
  case body => exact fun l pre x => absurd x.2.2.2.1 (by omega)
  case done =>
    rintro D xs W hD _ ⟨h6, h7, hk⟩ hK
    have c6 := h6.cell 0
    have f6 := h6.free 0
    have c7 := h7.cell 0
    have f7 := h7.free 0
    simp at c6 c7
    have HKd := Lib.hid hK
    have Hk := Lib.hid hk
    have H6 := Lib.hid h6
    have H7 := Lib.hid h7
    clear hK hk h6 h7
    gi_wp2
    have hD1 : w.heap.size + 1 ≠ D := by have := Hc7.out.lt; have := Hk0.out.more; omega
    have hD2 : w.heap.size + 1 + 1 ≠ D := by have := Hc7.out.lt; have := Hk0.out.more; omega
    have hK2 : ((W.setCell ⟨w.heap.size + 1, 0, none⟩ (.int .i64 0)).setCell ⟨w.heap.size + 1 + 1, 0, none⟩ (.bool false)).heap[D]? = some (.deferred (some [])) := by
      rw [put_other hD2, put_other hD1]
      exact HKd.out
    have h6 := has_put ((H6.out.put 0 (.int .i64 0)).beside ⟨w.heap.size + 1 + 1, 0, none⟩ (by simp) (.bool false)) D _ (.deferred none) hK2 rfl
    have h7 := has_put ((H7.out.beside ⟨w.heap.size + 1, 0, none⟩ (by simp) (.int .i64 0)).put 0 (.bool false)) D _ (.deferred none) hK2 rfl
    have d6 := h6.cell 0
    have d7 := h7.cell 0
    simp at d6 d7
    refine ⟨by simp, .inl ⟨_, _, rfl, run_takeDeferred hK2, ?_⟩⟩
    refine ⟨.tuple #[.int .i64 0, .bool false], ?_, ?_, kept_put (((Hk.out).setCell _ _ (.inr (by first | (simp; done) | (simp; omega)))).setCell _ _ (.inr (by first | (simp; done) | (simp; omega)))) D _ (Nat.le_trans Hkw.out.more hD)⟩
    · simp [results, Tryz.results155, go_sem, d6, d7]
    · rfl
  case stop =>
    rintro D c pre W _ h _
    exact h.elim

/-- The first place from i on whose bit is st. -/
def nextO (bs : List Bool) (i : Int) (st : Bool) : Option Nat := nextV (fun j => bit bs j == st) (bs.length - i.toNat) i.toNat
theorem next_ok (bs : List Bool) (p q : Nat) (w : World) (hv : Bv w p q bs) (hT : Table w) (i : Int) (i1 : -9223372036854775808 ≤ i) (i2 : i ≤ 9223372036854775807) :
    Calls Tryz.prog 126 #[.pointer (some ⟨p, 0, none⟩), .int .i64 i] w fun e w' => e = .returned (.tuple #[.int .i64 (atI (nextO bs i true)), .bool (nextO bs i true).isSome]) ∧ Kept [] w w' := by
  have h := Lib.hid (seek_yes bs p q w hv hT i i1 i2 0 (.inl rfl) (nextO bs i true) rfl)
  clear hv hT
  generalize nextO bs i true = o at *
  go_enter Tryz.func126, Tryz.ntmps126
  go_wp2_with fail
  refine (h.out).mono ?_
  rintro e w' ⟨rfl, hk⟩
  go_wp2_with fail
  go_ret2
  exact ⟨rfl, hk⟩
theorem nextClear_ok (bs : List Bool) (p q : Nat) (w : World) (hv : Bv w p q bs) (hT : Table w) (i : Int) (i1 : -9223372036854775808 ≤ i) (i2 : i ≤ 9223372036854775807) :
    Calls Tryz.prog 156 #[.pointer (some ⟨p, 0, none⟩), .int .i64 i] w fun e w' => e = .returned (.tuple #[.int .i64 (atI (nextO bs i false)), .bool (nextO bs i false).isSome]) ∧ Kept [] w w' := by
  have h := Lib.hid (seek_yes bs p q w hv hT i i1 i2 18446744073709551615 (.inr rfl) (nextO bs i false) rfl)
  clear hv hT
  generalize nextO bs i false = o at *
  go_enter Tryz.func156, Tryz.ntmps156
  go_wp2_with fail
  refine (h.out).mono ?_
  rintro e w' ⟨rfl, hk⟩
  go_wp2_with fail
  go_ret2
  exact ⟨rfl, hk⟩
theorem next_nil (w : World) (i : Int) (i1 : -9223372036854775808 ≤ i) (i2 : i ≤ 9223372036854775807) :
    Calls Tryz.prog 126 #[.pointer none, .int .i64 i] w fun e w' => e = .returned (.tuple #[.int .i64 0, .bool false]) ∧ Kept [] w w' := by
  have h := Lib.hid (seek_nil w i i1 i2 0)
  go_enter Tryz.func126, Tryz.ntmps126
  go_wp2_with fail
  refine (h.out).mono ?_
  rintro e w' ⟨rfl, hk⟩
  go_wp2_with fail
  go_ret2
  exact ⟨rfl, hk⟩
end Go.Proofs.YtoagghileebokaaGreatDoor.Bt

/-
  The contract of Prev.
-/
namespace Go.Proofs.YtoagghileebokaaGreatDoor.Bt
open Go.RowKit Go.Proofs.YtoagghileebokaaGreatDoor.Ar Go.Proofs.YtoagghileebokaaGreatDoor.Wd Go.Shelf Go.Sort
set_option linter.unusedVariables false
attribute [local go_sem] Oper.semAt_some

theorem pieceD_bit {bs : List Bool} {ws : List Int} (h : Means bs ws) {c : Nat} (hc : c ≤ bs.length) (hc0 : 0 < c) {x : Pc} (hx : isAtD (· = ws) c x) (j : Nat) (hj : j < x.n) : x.v.testBit j = bit bs (x.k * 64 + j) := by
  obtain ⟨h2, h3, h4, ws', h5, h6⟩ := hx
  subst h5
  have e := h.field ((c - 1) / 64 * 64) x.n j (by omega) (by omega) hj
  rw [show (c - 1) / 64 * 64 / 64 = (c - 1) / 64 by omega, show (c - 1) / 64 * 64 % 64 = 0 by omega] at e
  rw [h6, h3, h2]
  exact e
theorem pieceD_beyond {ws : List Int} {c : Nat} {x : Pc} (hx : isAtD (· = ws) c x) (j : Nat) (hj : x.n ≤ j) : x.v.testBit j = false := by
  obtain ⟨h2, h3, h4, ws', h5, h6⟩ := hx
  rw [h6]
  exact field_beyond _ _ _ _ hj
theorem Falls.miss {bs : List Bool} {ws : List Int} (h : Means bs ws) {nw : Nat} : ∀ {xs : List (Pcs nw)} {s t : Nat}, Falls (· = ws) s xs t → s ≤ bs.length → (∀ x ∈ xs, x.1.v = 0) → ∀ j, t ≤ j → j < s → bit bs j = false
  | [], s, t, hg, _, _, j, h1, h2 => by
    have h' : t = s := hg
    omega
  | x :: xs, s, t, ⟨h1, h2, h7⟩, hs, ha, j, j1, j2 => by
    have hk := h2.1
    have hn := h2.2.2.1
    by_cases hj : s - x.1.n ≤ j
    · have hx := pieceD_bit h hs h1 h2 (j - x.1.k * 64) (by omega)
      rw [ha x (by simp), Nat.zero_testBit, show x.1.k * 64 + (j - x.1.k * 64) = j by omega] at hx
      exact hx.symm
    · exact Falls.miss h h7 (by omega) (fun y hy => ha y (by simp [hy])) j j1 (by omega)
theorem Falls.split {G : List Int → Prop} {nw : Nat} {x : Pcs nw} : ∀ {xs : List (Pcs nw)} {s t : Nat}, Falls G s (xs ++ [x]) t → ∃ r, Falls G s xs r ∧ 0 < r ∧ isAtD G r x.1
  | [], s, t, ⟨h1, h2, h3⟩ => ⟨s, rfl, h1, h2⟩
  | y :: ys, s, t, ⟨h1, h2, h3⟩ => let ⟨r, a, b, c⟩ := Falls.split h3; ⟨r, ⟨h1, h2, a⟩, b, c⟩
theorem Falls.found {bs : List Bool} {ws : List Int} (h : Means bs ws) {nw : Nat} {xs : List (Pcs nw)} {x : Pcs nw} {s t : Nat} (hg : Falls (· = ws) s (xs ++ [x]) t) (hs : s ≤ bs.length) (ha : ∀ y ∈ xs, y.1.v = 0) (hx : x.1.v ≠ 0) :
    prevV (bit bs) s = some (x.1.k * 64 + Nat.log2 x.1.v) := by
  obtain ⟨r, h1, h2, h3⟩ := hg.split
  have hr := h1.length
  obtain ⟨l1, l2⟩ := top_bit x.1.v hx
  have hk := h3.1
  have hn := h3.2.2.1
  have hl : Nat.log2 x.1.v < x.1.n := by
    rcases Nat.lt_or_ge (Nat.log2 x.1.v) x.1.n with h | h
    · exact h
    · rw [pieceD_beyond h3 _ h] at l1
      cases l1
  refine prevV_hit _ _ _ (by omega) ?_ fun j j1 j2 => ?_
  · rw [← pieceD_bit h (by omega) h2 h3 _ hl]
    exact l1
  · by_cases hj : r ≤ j
    · exact Falls.miss h h1 hs ha j hj j2
    · have hb := l2 (j - x.1.k * 64) (by omega)
      rw [pieceD_bit h (by omega) h2 h3 (j - x.1.k * 64) (by omega), show x.1.k * 64 + (j - x.1.k * 64) = j by omega] at hb
      exact hb
/-- The last place up to i whose bit is set. -/
def prevO (bs : List Bool) (i : Int) : Option Nat := prevV (bit bs) (min i ((bs.length : Nat) - 1) + 1).toNat
set_option maxRecDepth 100000 in
set_option maxHeartbeats 4000000 in
theorem prev_ok (bs : List Bool) (p q : Nat) (w : World) (hv : Bv w p q bs) (i : Int) (i1 : -9223372036854775808 ≤ i) (i2 : i ≤ 9223372036854775807) :
    Calls Tryz.prog 62 #[.pointer (some ⟨p, 0, none⟩), .int .i64 i] w fun e w' => e = .returned (.tuple #[.int .i64 (atI (prevO bs i)), .bool (prevO bs i).isSome]) ∧ Kept [] w w' := by
  obtain ⟨o, ho⟩ : ∃ o, prevO bs i = o := ⟨_, rfl⟩
  rw [ho]
  obtain ⟨ws, hV, hM⟩ := hv
  have hf := hV.few
  have HV := Lib.hid hV
  have HM := Lib.hid hM
  have Ho := Lib.hid ho
  clear hV hM ho
  refine (callsIn_wide (n := 5)).1 ?_
  refine callsIn_of_wp_marks Tryz.func62 rfl trivial ?_ rfl
  simp only [Tryz.ntmps62, List.size_toArray, List.length_cons, List.length_nil, Nat.reduceAdd, Nat.reduceSub, Array.replicate_succ, Array.replicate_zero, List.push_toArray, List.append_toArray, List.nil_append, List.cons_append]
  gi_wp2_with (fail)
  have hk3 : Kept [] w ((w.alloc (.cells #[.int .i64 0] 3)).alloc (.cells #[.bool false] 4)) := ((Kept.refl [] w).alloc _).alloc _
  have hc6 := (Has.new w 3 [.int .i64 0]).alloc (.cells #[.bool false] 4)
  have hc7 := Has.new (w.alloc (.cells #[.int .i64 0] 3)) 4 [.bool false]
  rw [World.size_alloc] at hc7
  have hz3 : ((w.alloc (.cells #[.int .i64 0] 3)).alloc (.cells #[.bool false] 4)).heap.size = w.heap.size + 1 + 1 := by simp
  obtain ⟨w3, hw3⟩ : ∃ w3, ((w.alloc (.cells #[.int .i64 0] 3)).alloc (.cells #[.bool false] 4)) = w3 := ⟨_, rfl⟩
  rw [hw3] at hk3 hz3 ⊢
  have hc6' : Has w3 w.heap.size 3 [.int .i64 0] := by rw [← hw3]; exact hc6
  have hc7' : Has w3 (w.heap.size + 1) 4 [.bool false] := by rw [← hw3]; exact hc7
  clear hc6 hc7 hw3
  have HL := Lib.hid (len_ok w3 (HV.out.keep0 hk3))
  have Hz3 := Lib.hid hz3
  have Hk3 := Lib.hid hk3
  have Hc6 := Lib.hid hc6'
  have Hc7 := Lib.hid hc7'
  clear hz3 hk3 hc6' hc7'
  refine ⟨trivial, (callsIn_wide.2 HL.out).mono ?_⟩
  rintro e w' ⟨rfl, rfl⟩
  gi_wp2_with (fail)
  refine ⟨trivial, (callsIn_wide.2 (down_ok 0 _ _ _)).mono ?_⟩
  rintro e0 w0 ⟨rfl, hw0⟩
  have hk0 : Kept [] w3 w0 := by rw [hw0]; exact ((Kept.refl [] w3).alloc _).alloc _
  have h1 := (Has.new w3 70 [.pointer (some ⟨p, 0, none⟩)]).alloc (.cells #[.int .i64 (min i ((bs.length : Nat) - 1))] 3)
  have h2 := Has.new (w3.alloc (.cells #[.pointer (some ⟨p, 0, none⟩)] 70)) 3 [.int .i64 (min i ((bs.length : Nat) - 1))]
  rw [World.size_alloc, Hz3.out] at h2
  rw [Hz3.out] at h1
  have h1' : Has w0 (w.heap.size + 1 + 1) 70 [.pointer (some ⟨p, 0, none⟩)] := by rw [hw0]; exact h1
  have h2' : Has w0 (w.heap.size + 1 + 1 + 1) 3 [.int .i64 (min i ((bs.length : Nat) - 1))] := by rw [hw0]; exact h2
  clear hw0 h1 h2
  rw [Hz3.out]
  have hR : ReadsD (· = ws) w0 p q bs.length (w.heap.size + 1 + 1 + 1) (w.heap.size + 1 + 1) (min i ((bs.length : Nat) - 1)) :=
    ⟨HV.out.head.keep0 (Hk3.out.trans hk0), ⟨ws, rfl, HV.out.row.keep0 (Hk3.out.trans hk0)⟩, h2', h1'⟩
  have HR := Lib.hid hR
  have Hk0 := Lib.hid hk0
  clear hk0 h1' h2' hR
  gi_wp2_with (fail)
  have Hkw := Lib.hid (Hk3.out.trans Hk0.out)
  refine wpIn_rangeFunc_ownH rfl (by decide) (gf := 134) (lb := #[.pointer (some ⟨w.heap.size + 1 + 1 + 1, 0, none⟩), .pointer (some ⟨w.heap.size + 1 + 1, 0, none⟩)]) rfl trivial (enters_of Tryz.func134 (by kernel_rfl) rfl)
    (down_stops 4 (by decide) (· = ws) (good_of HV.out) [] p q bs.length (w.heap.size + 1 + 1 + 1) (w.heap.size + 1 + 1) (min i ((bs.length : Nat) - 1)) hf (by omega) (by omega) (by simp) w0 (by simp) HR.out)
    (fun h k => h.trans k) (fun W l o o' _ h hc _ => Keeps.put W l o o' h hc) (Below.refl _ _) (fun _ => rfl)
    (fun pre W => (∀ x ∈ pre, x.1.v = 0) ∧ Has W w.heap.size 3 [.int .i64 0] ∧ Has W (w.heap.size + 1) 4 [.bool false] ∧ Kept [] w W)
    (fun c pre W => (c = .ret ∧ ∃ ys x, pre = ys ++ [x] ∧ (∀ y ∈ ys, y.1.v = 0) ∧ x.1.v ≠ 0 ∧ Has W w.heap.size 3 [.int .i64 ((x.1.k * 64 + x.1.a + lenN x.1.v : Nat) - 1)] ∧ Has W (w.heap.size + 1) 4 [.bool true]) ∧ Kept [] w W)
    (OwnFrom.and (ownFrom_pure _ _) (OwnFrom.and own_has (OwnFrom.and own_has (own_kept Hkw.out.more))))
    (fun c => OwnFrom.and (fun pre X Y row hs hg hr => by
      obtain ⟨hc, ys, x, h1, h2, h3, h4, h5⟩ := hs
      exact ⟨hc, ys, x, h1, h2, h3, own_has (β := Unit) (f := fun _ => [.int .i64 ((x.1.k * 64 + x.1.a + lenN x.1.v : Nat) - 1)]) () X Y row h4 hg hr, own_has (β := Unit) (f := fun _ => [.bool true]) () X Y row h5 hg hr⟩) (own_kept Hkw.out.more))
    ⟨(by simp), Hc6.out.keep0 Hk0.out, Hc7.out.keep0 Hk0.out, Hkw.out⟩
    (fun x a' W => ∃ Bx, Has W Bx 174 [.int .i64 ((x.1.k : Nat) : Int), .int .i64 ((x.1.a : Nat) : Int), .int .i64 ((x.1.n : Nat) : Int)] ∧ a' = { tmps := #[.pointer (some ⟨p, 0, none⟩), .int .i64 i, undef, undef, .pointer (some ⟨w.heap.size, 0, none⟩), .pointer (some ⟨w.heap.size + 1, 0, none⟩), .pointer (some ⟨Bx, 0, none⟩), .int .u64 ((x.1.v : Nat) : Int), .pointer (some ⟨p, 0, none⟩), .int .i64 i, .pointer (some ⟨p, 0, none⟩), .int .i64 (bs.length : Nat), .int .i64 ((bs.length : Nat) - 1), .int .i64 (min i ((bs.length : Nat) - 1)), .func (.func 134) #[] #[.pointer (some ⟨w.heap.size + 1 + 1 + 1, 0, none⟩), .pointer (some ⟨w.heap.size + 1 + 1, 0, none⟩)], pieceV x.1.k x.1.a x.1.n, .int .u64 ((x.1.v : Nat) : Int), undef, undef, undef, undef, undef, undef, undef, undef], defers := [] })
    (fun x a' _ X Y row hs hg hr => by
      obtain ⟨Bx, h2, h3⟩ := hs
      exact ⟨Bx, own_has (β := Unit) (f := fun _ => [.int .i64 ((x.1.k : Nat) : Int), .int .i64 ((x.1.a : Nat) : Int), .int .i64 ((x.1.n : Nat) : Int)]) () X Y row h2 hg hr, h3⟩)
    ?assign ?body ?done ?stop
  case assign =>
    rintro l pre x W K hi hK
    unfold encs pieceV
    have HK := Lib.hid hK
    have HI := Lib.hid hi
    clear hi hK
    gi_wp2
    have hkn : Kept [] W (W.alloc (.cells #[.int .i64 ((x.1.k : Nat) : Int), .int .i64 ((x.1.a : Nat) : Int), .int .i64 ((x.1.n : Nat) : Int)] 174)) := (Kept.refl [] W).alloc _
    exact HK.out _ _ (keepsFrom_of hkn (by simp)) (Keeps.of (CellsKept.of_kept hkn) (by simp)) ⟨HI.out.1, HI.out.2.1.keep0 hkn, HI.out.2.2.1.keep0 hkn, HI.out.2.2.2.trans hkn⟩ ⟨W.heap.size, Has.new W _ _, rfl⟩
  case body =>
    rintro l pre x a' W _ _ ⟨hmi, h6, h7, hk⟩ ⟨Bx, hX, rfl⟩ hlen
    have c6 := h6.cell 0
    have f6 := h6.free 0
    have c7 := h7.cell 0
    have f7 := h7.free 0
    have x0 := hX.cell 0
    have x1 := hX.cell 1
    have x2 := hX.cell 2
    simp at c6 c7 x0 x1 x2
    obtain ⟨hx1, hx2, hx3, hx4⟩ := x.2
    have hLen : ∀ W, Calls Tryz.prog 102 #[.int .u64 ((x.1.v : Nat) : Int)] W fun e w' => e = .returned (.int .i64 ((lenN x.1.v : Nat) : Int)) ∧ W = w' := fun W => by
      have h := len64_any ((x.1.v : Nat) : Int) (by omega) (by omega) W
      rw [Int.toNat_natCast] at h
      exact h
    have hLl : lenN x.1.v ≤ 64 := by
      rw [← lenN_bitLen _ hx4]
      exact Lib.bitLenAux_le 64 x.1.v 64 hx4
    obtain ⟨L, hL⟩ : ∃ L, L = lenN x.1.v := ⟨_, rfl⟩
    rw [← hL] at hLen hLl
    have hkb : x.1.k ≤ 65536 := by omega
    have Hf := fun W => Lib.hid (first_ok x.1.k x.1.a x.1.n hkb (by omega) W)
    have HLen := Lib.hid hLen
    have HL := Lib.hid hL
    have Hmi := Lib.hid hmi
    have H6 := Lib.hid h6
    have H7 := Lib.hid h7
    have Hk := Lib.hid hk
    have HX := Lib.hid hX
    clear hLen hL hmi h6 h7 hk hX
    by_cases hz : x.1.v = 0
    · have Hz := Lib.hid hz
      have hz1 : (((x.1.v : Nat) : Int) != 0) = false := by rw [hz]; rfl
      clear hz
      gi_wp2_with (fail)
      refine ⟨KeepsFrom.refl _ _, Keeps.of (CellsKept.of_kept (Kept.refl _ W)) (by simp), fun y hy => ?_, H6.out, H7.out, Hk.out⟩
      rcases List.mem_append.1 hy with h | h
      · exact Hmi.out y h
      · rw [List.mem_singleton.1 h]
        exact Hz.out
    · have Hz := Lib.hid hz
      have hz1 : (((x.1.v : Nat) : Int) != 0) = true := by rw [bne_iff_ne]; omega
      clear hz
      gi_wp2_with (fail)
      refine ⟨trivial, (CallsIn.inRound l (callsIn_wide.2 (Hf W).out)).mono ?_⟩
      rintro e1 W1 ⟨rfl, hk1⟩
      have c6 := (H6.out.keep0 hk1).cell 0
      have f6 := (H6.out.keep0 hk1).free 0
      have c7 := (H7.out.keep0 hk1).cell 0
      have f7 := (H7.out.keep0 hk1).free 0
      simp at c6 c7
      have Hk1 := Lib.hid hk1
      clear hk1
      gi_wp2_with (fail)
      refine ⟨trivial, (CallsIn.inRound l (callsIn_wide.2 (HLen.out W1))).mono ?_⟩
      rintro e2 W2 ⟨rfl, rfl⟩
      gi_wp2_with (fail)
      have hKS : Kept [w.heap.size, w.heap.size + 1] W ((W1.setCell ⟨w.heap.size, 0, none⟩ (.int .i64 ((x.1.k : Int) * 64 + (x.1.a : Int) + (L : Int) - 1))).setCell ⟨w.heap.size + 1, 0, none⟩ (.bool true)) :=
        ((Hk1.out.none _).setCell _ _ (.inl (by simp))).setCell _ _ (.inl (by simp))
      have h6 := ((H6.out.keep0 Hk1.out).put 0 (.int .i64 ((x.1.k : Int) * 64 + (x.1.a : Int) + (L : Int) - 1))).beside ⟨w.heap.size + 1, 0, none⟩ (by simp) (.bool true)
      have h7 := ((H7.out.keep0 Hk1.out).beside ⟨w.heap.size, 0, none⟩ (by simp) (.int .i64 ((x.1.k : Int) * 64 + (x.1.a : Int) + (L : Int) - 1))).put 0 (.bool true)
      refine ⟨keepsFrom_of hKS (fun b hb => ?_), ⟨rfl, pre, x, rfl, Hmi.out, Hz.out, ?_, h7⟩, ((Hk.out.trans Hk1.out).setCell _ _ (.inr (by first | (simp; done) | (simp; omega)))).setCell _ _ (.inr (by first | (simp; done) | (simp; omega)))⟩
      · rcases List.mem_cons.1 hb with rfl | hb
        · exact ⟨_, _, H6.out⟩
        · obtain rfl := List.mem_singleton.1 hb
          exact ⟨_, _, H7.out⟩
      · rw [← HL.out, Int.natCast_add, Int.natCast_add, Int.natCast_mul]
        exact h6
  case done =>
    rintro D xs W hD hg ⟨hmi, h6, h7, hk⟩ hK
    have c6 := h6.cell 0
    have f6 := h6.free 0
    have c7 := h7.cell 0
    have f7 := h7.free 0
    simp at c6 c7
    have hn : prevO bs i = none := prevV_none _ _ fun j hj => Falls.miss HM.out hg (by omega) hmi j (by omega) hj
    rw [Ho.out] at hn
    have Hn := Lib.hid hn
    have HKd := Lib.hid hK
    have Hk := Lib.hid hk
    have H6 := Lib.hid h6
    have H7 := Lib.hid h7
    clear hn hK hk h6 h7 hmi hg
    gi_wp2
    have hD1 : w.heap.size ≠ D := by have := Hc7.out.lt; have := Hk0.out.more; omega
    have hD2 : w.heap.size + 1 ≠ D := by have := Hc7.out.lt; have := Hk0.out.more; omega
    have hK2 : ((W.setCell ⟨w.heap.size, 0, none⟩ (.int .i64 0)).setCell ⟨w.heap.size + 1, 0, none⟩ (.bool false)).heap[D]? = some (.deferred (some [])) := by
      rw [put_other hD2, put_other hD1]
      exact HKd.out
    have h6 := has_put ((H6.out.put 0 (.int .i64 0)).beside ⟨w.heap.size + 1, 0, none⟩ (by simp) (.bool false)) D _ (.deferred none) hK2 rfl
    have h7 := has_put ((H7.out.beside ⟨w.heap.size, 0, none⟩ (by simp) (.int .i64 0)).put 0 (.bool false)) D _ (.deferred none) hK2 rfl
    have d6 := h6.cell 0
    have d7 := h7.cell 0
    simp at d6 d7
    refine ⟨by simp, .inl ⟨_, _, rfl, run_takeDeferred hK2, ?_⟩⟩
    refine ⟨.tuple #[.int .i64 0, .bool false], ?_, ?_, kept_put (((Hk.out).setCell _ _ (.inr (by first | (simp; done) | (simp; omega)))).setCell _ _ (.inr (by first | (simp; done) | (simp; omega)))) D _ (Nat.le_trans Hkw.out.more hD)⟩
    · simp [results, Tryz.results62, go_sem, d6, d7]
    · rw [Hn.out]
      rfl
  case stop =>
    rintro D c pre W hD ⟨t, hg⟩ ⟨⟨rfl, ys, x, rfl, hmi, hx, h6, h7⟩, hk⟩ hK
    have c6 := h6.cell 0
    have c7 := h7.cell 0
    simp at c6 c7
    have hf2 : prevO bs i = _ := Falls.found HM.out hg (by omega) hmi hx
    obtain ⟨r, g1, g2, g3⟩ := hg.split
    have ha0 : x.1.a = 0 := g3.2.1
    have hl : lenN x.1.v = Nat.log2 x.1.v + 1 := by unfold lenN; rw [if_neg hx]
    rw [Ho.out, show x.1.k * 64 + Nat.log2 x.1.v = x.1.k * 64 + x.1.a + lenN x.1.v - 1 by omega] at hf2
    have hge : 1 ≤ x.1.k * 64 + x.1.a + lenN x.1.v := by omega
    generalize x.1.k * 64 + x.1.a + lenN x.1.v = y at *
    have Hf2 := Lib.hid hf2
    have HKd := Lib.hid hK
    have Hk := Lib.hid hk
    have H6 := Lib.hid h6
    have H7 := Lib.hid h7
    clear hf2 hK hk h6 h7 hmi hg hx g1 g2 g3 ha0 hl
    gi_wp2
    have d6 := (has_put H6.out D _ (.deferred none) HKd.out rfl).cell 0
    have d7 := (has_put H7.out D _ (.deferred none) HKd.out rfl).cell 0
    simp only [List.getElem?_cons_zero] at d6 d7
    refine ⟨by simp, .inl ⟨_, _, rfl, run_takeDeferred HKd.out, ?_⟩⟩
    refine ⟨.tuple #[.int .i64 ((y : Nat) - 1), .bool true], ?_, ?_, kept_put Hk.out D _ (Nat.le_trans Hkw.out.more hD)⟩
    · simp [results, Tryz.results62, go_sem, d6, d7]
    · rw [Hf2.out]
      show _ = Ending.returned (.tuple #[.int .i64 (((y - 1 : Nat) : Nat) : Int), .bool true])
      rw [show (((y - 1 : Nat) : Nat) : Int) = (y : Int) - 1 by omega]

end Go.Proofs.YtoagghileebokaaGreatDoor.Bt

/-
  The contracts of lay, Set, Clear, SetRun and ClearRun.
-/
namespace Go.Proofs.YtoagghileebokaaGreatDoor.Bt
open Go.RowKit Go.Proofs.YtoagghileebokaaGreatDoor.Ar Go.Proofs.YtoagghileebokaaGreatDoor.Wd Go.Shelf Go.Sort
set_option linter.unusedVariables false
attribute [local go_sem] Oper.semAt_some

/-- A piece all of whose bits are st. -/
def fill (st : Bool) (n : Nat) : Nat := if st then 2 ^ n - 1 else 0
theorem fill_lt (st : Bool) (n : Nat) : fill st n < 2 ^ n := by
  have := Nat.two_pow_pos n
  unfold fill
  split <;> omega
theorem fill_bit (st : Bool) (n j : Nat) (hj : j < n) : (fill st n).testBit j = st := by
  unfold fill
  cases st with
  | true => rw [if_pos rfl, Nat.testBit_two_pow_sub_one]; exact decide_eq_true hj
  | false => rw [if_neg (by decide), Nat.zero_testBit]
/-- All bits of a word. -/
def full (st : Bool) : Nat := if st then 18446744073709551615 else 0
theorem full_cut (st : Bool) (n : Nat) (hn : n ≤ 64) : full st / 2 ^ (64 - n) = fill st n := by
  unfold full fill
  cases st with
  | false => simp
  | true =>
    simp only [if_true]
    have e : (18446744073709551616 : Nat) = 2 ^ n * 2 ^ (64 - n) := by rw [← Nat.pow_add, show n + (64 - n) = 64 by omega]
    have hp := Nat.two_pow_pos (64 - n)
    have hn0 := Nat.two_pow_pos n
    have e2 : (18446744073709551615 : Nat) = (2 ^ n - 1) * 2 ^ (64 - n) + (2 ^ (64 - n) - 1) := by
      rw [Nat.sub_mul, Nat.one_mul]
      have : 2 ^ (64 - n) ≤ 2 ^ n * 2 ^ (64 - n) := Nat.le_mul_of_pos_left _ hn0
      omega
    rw [e2, Nat.mul_comm, Nat.mul_add_div hp, Nat.div_eq_of_lt (by omega)]
    rfl
def Gw (ws : List Int) : Prop := ws.length = 1024 ∧ ∀ j, 0 ≤ ws.getD j 0 ∧ ws.getD j 0 < 18446744073709551616
theorem good_w : Good Gw := fun _ h => h
/-- A piece laid into the words; all pieces. -/
def layOne (st : Bool) {nw : Nat} (ws : List Int) (x : Pcs nw) : List Int := ws.set x.1.k ((put (ws.getD x.1.k 0).toNat x.1.a x.1.n (fill st x.1.n) : Nat) : Int)
def layAll (st : Bool) {nw : Nat} (ws : List Int) (xs : List (Pcs nw)) : List Int := xs.foldl (layOne st) ws
theorem layAll_snoc (st : Bool) {nw : Nat} (ws : List Int) (xs : List (Pcs nw)) (x : Pcs nw) : layAll st ws (xs ++ [x]) = layOne st (layAll st ws xs) x := by unfold layAll; rw [List.foldl_append]; rfl
theorem Gw.one {ws : List Int} (h : Gw ws) (st : Bool) {nw : Nat} (x : Pcs nw) : Gw (layOne st ws x) := by
  unfold layOne
  refine ⟨by rw [List.length_set]; exact h.1, fun j => ?_⟩
  by_cases hj : x.1.k = j
  · by_cases hl : x.1.k < ws.length
    · have hp := put_lt (ws.getD x.1.k 0).toNat x.1.a x.1.n (fill st x.1.n) (by have := h.2 x.1.k; omega) x.2.2.1 (fill_lt _ _)
      rw [List.getD, ← hj, List.getElem?_set_self hl]
      show 0 ≤ ((put (ws.getD x.1.k 0).toNat x.1.a x.1.n (fill st x.1.n) : Nat) : Int) ∧ _ < _
      constructor
      · omega
      · show ((put (ws.getD x.1.k 0).toNat x.1.a x.1.n (fill st x.1.n) : Nat) : Int) < _
        omega
    · rw [List.getD, List.getElem?_eq_none (by rw [List.length_set]; omega)]
      exact ⟨Int.le_refl _, by decide⟩
  · rw [List.getD, List.getElem?_set_ne hj]
    exact h.2 j
theorem Gw.all {ws : List Int} (h : Gw ws) (st : Bool) {nw : Nat} (xs : List (Pcs nw)) : Gw (layAll st ws xs) := by
  unfold layAll
  induction xs generalizing ws with
  | nil => exact h
  | cons x xs ih => exact ih (h.one st x)
theorem Goes.lay {bs : List Bool} {ws : List Int} (h : Means bs ws) (hG : Gw ws) (hl : bs.length ≤ 65536) {G : List Int → Prop} {e : Nat} (he : e ≤ bs.length) (st : Bool) {nw : Nat} : ∀ {xs : List (Pcs nw)} {s t : Nat}, Goes G e s xs t → s ≤ e → Means (laid bs s (t - s) st) (layAll st ws xs)
  | [], s, t, hg, _ => by
    have h' : t = s := hg
    subst h'
    rw [Nat.sub_self, laid_none]
    exact h
  | x :: xs, s, t, ⟨h1, ⟨h2, h3, h4, _⟩, h7⟩, hs => by
    have hn := x.2.1
    have ht := Goes.length h7
    have hw := hG.2 (s / 64)
    have hM : Means (laid bs s x.1.n st) (layOne st ws x) := by
      unfold layOne
      rw [h2, h3]
      exact h.put hG.1 hl s x.1.n st (fill st x.1.n) (by omega) (by omega) hn (by omega) (fill_lt _ _) (fun j hj => fill_bit st _ j hj)
    have ih := Goes.lay (bs := laid bs s x.1.n st) hM (hG.one st x) (by rw [laid_length]; exact hl) (by rw [laid_length]; exact he) st h7 (by omega)
    rw [laid_more, show x.1.n + (t - (s + x.1.n)) = t - s by omega] at ih
    exact ih
theorem layV_ok (v : Int) (a n x : Nat) (h1 : 1 ≤ n) (h2 : a + n ≤ 64) (hx : x < 2 ^ n) : layV v a n x = ((put v.toNat a n x : Nat) : Int) := by
  unfold layV
  rw [if_pos ((layB_iff _ _ _).2 ⟨(okB_iff _ _).2 (by omega), by simpa using hx⟩)]
  simp

set_option maxRecDepth 100000 in
set_option maxHeartbeats 4000000 in
theorem lay_yes (bs : List Bool) (p q : Nat) (w : World) (hv : Bv w p q bs) (i n : Nat) (hin : i + n ≤ bs.length) (st : Bool) :
    Calls Tryz.prog 103 #[.pointer (some ⟨p, 0, none⟩), .int .i64 i, .int .i64 n, .int .u64 (full st : Nat)] w fun e w' => e = .returned (.int .i64 0) ∧ Bv w' p q (laid bs i n st) ∧ Kept [q] w w' := by
  obtain ⟨ws, hV, hM⟩ := hv
  have hf := hV.few
  have hpq := hV.ne
  have hqz : q < w.heap.size := hV.row.lt
  have hpz : p < w.heap.size := hV.head.lt
  have HV := Lib.hid hV
  have HM := Lib.hid hM
  have HG : Hid (Gw ws) := Lib.hid ⟨hV.len, hV.word⟩
  clear hV hM
  generalize hfs : full st = fs
  have Hfs := Lib.hid hfs
  clear hfs
  refine (callsIn_wide (n := 5)).1 ?_
  refine callsIn_of_wp_marks Tryz.func103 rfl trivial ?_ rfl
  simp only [Tryz.ntmps103, List.size_toArray, List.length_cons, List.length_nil, Nat.reduceAdd, Nat.reduceSub, Array.replicate_succ, Array.replicate_zero, List.push_toArray, List.append_toArray, List.nil_append, List.cons_append]
  gi_wp2_with (fail)
  have hk3 : Kept [] w ((w.alloc (.cells #[.pointer (some ⟨p, 0, none⟩)] 70)).alloc (.cells #[.int .u64 fs] 55)) := ((Kept.refl [] w).alloc _).alloc _
  have hc6 := (Has.new w 70 [.pointer (some ⟨p, 0, none⟩)]).alloc (.cells #[.int .u64 fs] 55)
  have hc7 := Has.new (w.alloc (.cells #[.pointer (some ⟨p, 0, none⟩)] 70)) 55 [.int .u64 fs]
  rw [World.size_alloc] at hc7
  have hz3 : ((w.alloc (.cells #[.pointer (some ⟨p, 0, none⟩)] 70)).alloc (.cells #[.int .u64 fs] 55)).heap.size = w.heap.size + 1 + 1 := by simp
  obtain ⟨w3, hw3⟩ : ∃ w3, ((w.alloc (.cells #[.pointer (some ⟨p, 0, none⟩)] 70)).alloc (.cells #[.int .u64 fs] 55)) = w3 := ⟨_, rfl⟩
  rw [hw3] at hk3 hz3 ⊢
  have hc6' : Has w3 w.heap.size 70 [.pointer (some ⟨p, 0, none⟩)] := by rw [← hw3]; exact hc6
  have hc7' : Has w3 (w.heap.size + 1) 55 [.int .u64 fs] := by rw [← hw3]; exact hc7
  clear hc6 hc7 hw3
  have hck := check_ok w3 (HV.out.keep0 hk3) i n (by omega) (by omega) (by omega) (by omega)
  rw [show errOf (within bs.length i n) = 0 from by rw [(within_iff _ _ _).2 (by omega)]; rfl] at hck
  have hup := up_reads w3 (HV.out.keep0 hk3) i (i + n)
  have c4 := hc6'.cell 0
  simp at c4
  have Hck := Lib.hid hck
  have Hup := Lib.hid hup
  have Hz3 := Lib.hid hz3
  have Hk3 := Lib.hid hk3
  have Hc6 := Lib.hid hc6'
  have Hc7 := Lib.hid hc7'
  clear hz3 hk3 hc6' hc7' hck hup
  refine ⟨trivial, (callsIn_wide.2 Hck.out).mono ?_⟩
  rintro e w' ⟨rfl, rfl⟩
  gi_wp2_with (fail)
  rw [show (i : Int) + (n : Int) = ((i + n : Nat) : Int) by omega]
  refine ⟨trivial, (callsIn_wide.2 Hup.out).mono ?_⟩
  rintro e0 w0 ⟨rfl, hR, hk0⟩
  rw [Hz3.out] at hR ⊢
  have HR := Lib.hid hR
  have Hk0 := Lib.hid hk0
  clear hR hk0
  gi_wp2_with (fail)
  have Hkw := Lib.hid (Hk3.out.trans Hk0.out)
  refine wpIn_rangeFunc_ownH rfl (by decide) (gf := 130) (lb := #[.pointer (some ⟨w.heap.size + 1 + 1 + 1, 0, none⟩), .pointer (some ⟨w.heap.size + 1 + 1 + 2, 0, none⟩), .pointer (some ⟨w.heap.size + 1 + 1, 0, none⟩)]) rfl trivial (enters_of Tryz.func130 (by kernel_rfl) rfl)
    (up_stops 4 (by decide) Gw good_w [q] p q bs.length (w.heap.size + 1 + 1 + 1) (w.heap.size + 1 + 1 + 2) (w.heap.size + 1 + 1) i (i + n) hf hin (by simp; omega) w0 (by simp; have := Hkw.out.more; omega)
      ⟨HR.out.head, (let ⟨ws', h1, h2⟩ := HR.out.row; ⟨ws', by subst h1; exact HG.out, h2⟩), HR.out.from', HR.out.below, HR.out.vec⟩)
    (fun h k => h.trans k) (fun W l o o' _ h hc _ => Keeps.put W l o o' h hc) (Below.refl _ _) (fun _ => rfl)
    (fun pre W => Has W q 178 (ints (layAll st ws pre)) ∧ Has W w.heap.size 70 [.pointer (some ⟨p, 0, none⟩)] ∧ Has W (w.heap.size + 1) 55 [.int .u64 fs] ∧ Has W p 180 [.int .i64 (bs.length : Nat), .slice (some ⟨q, 0, none⟩) ((bs.length + 63) / 64) 1024] ∧ Kept [q] w W)
    (fun _ _ _ => False)
    (OwnFrom.and own_has (OwnFrom.and own_has (OwnFrom.and own_has (OwnFrom.and own_has (own_kept Hkw.out.more)))))
    (fun _ _ _ _ _ hs _ _ => hs)
    ⟨HV.out.row.keep0 Hkw.out, Hc6.out.keep0 Hk0.out, Hc7.out.keep0 Hk0.out, HV.out.head.keep0 Hkw.out, Hkw.out.none _⟩
    (fun x a' W => ∃ Bx, Has W Bx 174 [.int .i64 ((x.1.k : Nat) : Int), .int .i64 ((x.1.a : Nat) : Int), .int .i64 ((x.1.n : Nat) : Int)] ∧ a' = { tmps := #[.pointer (some ⟨p, 0, none⟩), .int .i64 i, .int .i64 n, .int .u64 fs, .pointer (some ⟨w.heap.size, 0, none⟩), undef, undef, .pointer (some ⟨w.heap.size + 1, 0, none⟩), .int .i64 0, .int .i64 0, .pointer (some ⟨Bx, 0, none⟩), .pointer (some ⟨p, 0, none⟩), .int .i64 i, .int .i64 n, .int .i64 0, .int .i64 0, .bool false, undef, .pointer (some ⟨p, 0, none⟩), .int .i64 i, .int .i64 i, .int .i64 n, .int .i64 ((i : Int) + (n : Int)), .func (.func 130) #[] #[.pointer (some ⟨w.heap.size + 1 + 1 + 1, 0, none⟩), .pointer (some ⟨w.heap.size + 1 + 1 + 2, 0, none⟩), .pointer (some ⟨w.heap.size + 1 + 1, 0, none⟩)], pieceV x.1.k x.1.a x.1.n, .int .u64 ((x.1.v : Nat) : Int), undef, undef, undef, undef, undef, undef, undef, undef, undef, undef, undef, undef, undef, undef, undef, undef, undef, undef, undef, undef, undef, undef, undef, undef, undef, undef, undef, undef, undef, undef, undef], defers := [] })
    (fun x a' _ X Y row hs hg hr => by
      obtain ⟨Bx, h2, h3⟩ := hs
      exact ⟨Bx, own_has (β := Unit) (f := fun _ => [.int .i64 ((x.1.k : Nat) : Int), .int .i64 ((x.1.a : Nat) : Int), .int .i64 ((x.1.n : Nat) : Int)]) () X Y row h2 hg hr, h3⟩)
    ?assign ?body ?done ?stop
  case assign =>
    rintro l pre x W K hi hK
    unfold encs pieceV
    have HK := Lib.hid hK
    have HI := Lib.hid hi
    clear hi hK
    gi_wp2
    have hkn : Kept [] W (W.alloc (.cells #[.int .i64 ((x.1.k : Nat) : Int), .int .i64 ((x.1.a : Nat) : Int), .int .i64 ((x.1.n : Nat) : Int)] 174)) := (Kept.refl [] W).alloc _
    exact HK.out _ _ (keepsFrom_of hkn (by simp)) ⟨CellsKept.of_kept (hkn.none _), fun ⟨ws', h1, h2⟩ => ⟨ws', h1, h2.keep0 hkn⟩⟩ ⟨HI.out.1.keep0 hkn, HI.out.2.1.keep0 hkn, HI.out.2.2.1.keep0 hkn, HI.out.2.2.2.1.keep0 hkn, HI.out.2.2.2.2.trans (hkn.none _)⟩ ⟨W.heap.size, Has.new W _ _, rfl⟩
  case body =>
    rintro l pre x a' W _ _ ⟨hq, h6, h7, hp, hk⟩ ⟨Bx, hX, rfl⟩ hlen
    have hGa := HG.out.all st pre
    have hone := layAll_snoc st ws pre x
    have hGo := hGa.one st x
    generalize layAll st ws pre = wp at *
    have c6 := h6.cell 0
    have c7 := h7.cell 0
    have x0 := hX.cell 0
    have x1 := hX.cell 1
    have x2 := hX.cell 2
    have cp := hp.cell 1
    obtain ⟨hx1, hx2, hx3, hx4⟩ := x.2
    have hk1024 : x.1.k < wp.length := by rw [hGa.1]; omega
    have cq : W.cell? ⟨q, x.1.k, none⟩ = some (.int .u64 (wp.getD x.1.k 0)) := by rw [hq.cell, ints_get wp _ hk1024]
    have fq := hq.free x.1.k
    obtain ⟨nw, hnw⟩ : ∃ nw, nw = (bs.length + 63) / 64 := ⟨_, rfl⟩
    rw [← hnw] at cp
    have hknw : x.1.k < nw := by omega
    simp only [List.getElem?_cons_zero, List.getElem?_cons_succ] at c6 c7 x0 x1 x2 cp
    have hgk := hGa.2 x.1.k
    have hfull := full_cut st x.1.n (by omega)
    rw [Hfs.out] at hfull
    obtain ⟨z, hz⟩ : ∃ z, z = 64 - x.1.n := ⟨_, rfl⟩
    rw [← hz] at hfull
    have hw1 : IntKind.i64.wrap (z : Int) = (z : Int) := by rw [IntWalk.i64_in _ (by omega)]
    have hw2 : 64 - ((x.1.n : Nat) : Int) = (z : Int) := by omega
    obtain ⟨fl, hfl⟩ : ∃ fl, fl = fill st x.1.n := ⟨_, rfl⟩
    have hsh : (fs : Int) / 2 ^ z = (fl : Int) := by rw [cast_two, ← Int.natCast_ediv, hfull, hfl]
    have hfl2 : fl < 2 ^ x.1.n := by rw [hfl]; exact fill_lt st x.1.n
    have hpw : 2 ^ x.1.n ≤ 18446744073709551616 := Nat.pow_le_pow_right (n := 2) (by decide) (show x.1.n ≤ 64 by omega)
    have hLay : ∀ W, Calls Tryz.prog 135 #[.int .u64 (wp.getD x.1.k 0), .int .i64 x.1.a, .int .i64 x.1.n, .int .u64 (fl : Nat)] W fun e w' => e = .returned (.tuple #[.int .u64 ((put (wp.getD x.1.k 0).toNat x.1.a x.1.n fl : Nat) : Int), .int .i64 0]) ∧ ∃ k, w' = W.drewN k := by
      intro W
      have h := lay_any (wp.getD x.1.k 0) (x.1.a : Int) (x.1.n : Int) ((fl : Nat) : Int) hgk.1 hgk.2 (by omega) (by omega) (by omega) (by omega) W
      rw [layV_ok _ _ _ _ hx1 hx2 hfl2] at h
      unfold layE at h
      rw [if_pos ((layB_iff _ _ _).2 ⟨(okB_iff _ _).2 (by omega), by simpa using hfl2⟩)] at h
      exact h
    obtain ⟨y, hy⟩ : ∃ y, y = put (wp.getD x.1.k 0).toNat x.1.a x.1.n fl := ⟨_, rfl⟩
    rw [← hy] at hLay
    have hset : layOne st wp x = wp.set x.1.k (y : Int) := by rw [hy, hfl]; rfl
    rw [hset] at hone hGo
    generalize wp.getD x.1.k 0 = g at *
    have HLay := Lib.hid hLay
    have Hone := Lib.hid hone
    have HGo := Lib.hid hGo
    have HGa := Lib.hid hGa
    have Hq := Lib.hid hq
    have H6 := Lib.hid h6
    have H7 := Lib.hid h7
    have Hp := Lib.hid hp
    have Hk := Lib.hid hk
    have HX := Lib.hid hX
    have Hy := Lib.hid hy
    clear hLay hone hGo hGa hq h6 h7 hp hk hX hset hy hfull hlen hnw hk1024 hz hfl hfl2 hpw
    gi_wp2_with (fail)
    refine Rk.wpIn_store (r := some l) (C := fun w' => ∃ n, w' = W.drewN n) 31 29 _ _ (.tmp 26) 1 (by kernel_rfl) (by kernel_rfl) rfl rfl rfl rfl (by kernel_rfl) ⟨1, rfl⟩ ?_
    simp only [List.take_succ_cons, List.take_zero]
    repeat (quiet_step (exact Calls.quiet_of (HLay.out _)))
    refine wpQuiet_nil ?_
    rintro _ ⟨nq, rfl⟩
    refine ⟨(W.drewN nq).setCell ⟨q, x.1.k, none⟩ (.int .u64 (y : Nat)), by simp [go_sem, cq, fq], ?_⟩
    have hKS : Kept [q] W ((W.drewN nq).setCell ⟨q, x.1.k, none⟩ (.int .u64 (y : Nat))) := ((Kept.refl _ W).drewN nq).setCell _ _ (.inl (by simp))
    have hq' : Has ((W.drewN nq).setCell ⟨q, x.1.k, none⟩ (.int .u64 (y : Nat))) q 178 (ints (wp.set x.1.k (y : Int))) := by
      rw [← ints_set]
      exact (Hq.out.drewN nq).put x.1.k (.int .u64 (y : Nat))
    have n6 : w.heap.size ∉ [q] := by simp; omega
    have n7 : w.heap.size + 1 ∉ [q] := by simp; omega
    have np : p ∉ [q] := by simp; omega
    refine ⟨keepsFrom_of hKS (fun b hb => by obtain rfl := List.mem_singleton.1 hb; exact ⟨_, _, Hq.out⟩), ⟨CellsKept.of_kept hKS, fun _ => ⟨_, HGo.out, hq'⟩⟩, ?_, H6.out.kept hKS n6, H7.out.kept hKS n7, Hp.out.kept hKS np, Hk.out.trans hKS⟩
    rw [Hone.out]
    exact hq'
  case done =>
    rintro D xs W hD ⟨t, hg, ht⟩ ⟨hq, h6, h7, hp, hk⟩ hK
    have hGa := HG.out.all st xs
    have ht2 := hg.le (by omega)
    have hMe := Goes.lay HM.out HG.out hf hin st hg (by omega)
    rw [show t - i = n by omega] at hMe
    have hpD := has_put hp D _ (.deferred none) hK rfl
    have hqD := has_put hq D _ (.deferred none) hK rfl
    have hBv : Hid (Bv (W.putObj D (.deferred none)) p q (laid bs i n st)) := Lib.hid ⟨_, ⟨by rw [laid_length]; exact hpD, hqD, hGa.1, by rw [laid_length]; exact hf, hGa.2⟩, hMe⟩
    have hkD : Kept [q] w (W.putObj D (.deferred none)) := hk.grown (grownBy_putObj' W D (.deferred none)) fun g e => .inr (by injection e with e; have := Hkw.out.more; omega)
    have HkD := Lib.hid hkD
    have HKd := Lib.hid hK
    clear hGa ht2 hMe hpD hqD hkD hK hq h6 h7 hp hk hg ht
    gi_wp2
    refine ⟨by simp, .inl ⟨_, _, rfl, run_takeDeferred HKd.out, ?_⟩⟩
    exact ⟨_, results_tmp rfl _ _ _, rfl, hBv.out, HkD.out⟩
  case stop =>
    rintro D c pre W _ _ h _
    exact h.elim
end Go.Proofs.YtoagghileebokaaGreatDoor.Bt
