/-
  The contracts of seek, Next and NextClear.
-/
import Derived.Test.YtijlaganpnoefaaDoorBtCount
namespace Go.Proofs.YtijlaganpnoefaaDoor.Bt
open Go.RowKit Go.Proofs.YtijlaganpnoefaaDoor.Ar Go.Proofs.YtijlaganpnoefaaDoor.Wd Go.Shelf Go.Sort
set_option linter.unusedVariables false
attribute [local go_sem] Oper.semAt_some

/-- Where the lowest bit of a piece is that is other than those of m. -/
def lowX (m : Nat) (x : Pc) : Nat := lowFrom (x.v ^^^ m) 0 64
def hit (m : Nat) (x : Pc) : Prop := lowX m x < x.n
/-- The bits that are other than those of m. -/
def other (bs : List Bool) (m : Nat) (j : Nat) : Bool := bit bs j == decide (m = 0)
theorem piece_bit {bs : List Bool} {ws : List Int} (h : Means bs ws) {m : Nat} (hm : m = 0 ∨ m = 18446744073709551615) {e s : Nat} (he : e ≤ bs.length) {x : Pc} (hx : isAt (· = ws) e s x) (hse : s < e) (hn : x.a + x.n ≤ 64) (j : Nat) (hj : j < x.n) :
    (x.v ^^^ m).testBit j = other bs m (s + j) := by
  obtain ⟨h2, h3, h4, ws', h5, h6⟩ := hx
  subst h5
  rw [flip_bit _ _ _ (by omega) hm, h6, h3, h.field s x.n j (by omega) (by omega) hj]
  rfl
theorem Goes.miss {bs : List Bool} {ws : List Int} (h : Means bs ws) {m : Nat} (hm : m = 0 ∨ m = 18446744073709551615) {e : Nat} (he : e ≤ bs.length) {nw : Nat} : ∀ {xs : List (Pcs nw)} {s t : Nat}, Goes (· = ws) e s xs t → (∀ x ∈ xs, ¬ hit m x.1) → ∀ j, s ≤ j → j < t → other bs m j = false
  | [], s, t, hg, _, j, h1, h2 => by
    have h' : t = s := hg
    omega
  | x :: xs, s, t, ⟨h1, h2, h7⟩, ha, j, j1, j2 => by
    by_cases hj : j < s + x.1.n
    · have hx := low_miss (x.1.v ^^^ m) x.1.n (by have := x.2.2.1; omega) (ha x (by simp)) (j - s) (by omega)
      rw [piece_bit h hm he h2 h1 x.2.2.1 (j - s) (by omega), show s + (j - s) = j by omega] at hx
      exact hx
    · exact Goes.miss h hm he h7 (fun y hy => ha y (by simp [hy])) j (by omega) j2
theorem Goes.split {G : List Int → Prop} {e nw : Nat} {x : Pcs nw} : ∀ {xs : List (Pcs nw)} {s t : Nat}, Goes G e s (xs ++ [x]) t → ∃ r, Goes G e s xs r ∧ r < e ∧ isAt G e r x.1
  | [], s, t, ⟨h1, h2, h3⟩ => ⟨s, rfl, h1, h2⟩
  | y :: ys, s, t, ⟨h1, h2, h3⟩ => let ⟨r, a, b, c⟩ := Goes.split h3; ⟨r, ⟨h1, h2, a⟩, b, c⟩
theorem Goes.found {bs : List Bool} {ws : List Int} (h : Means bs ws) {m : Nat} (hm : m = 0 ∨ m = 18446744073709551615) {e : Nat} (he : e ≤ bs.length) {nw : Nat} {xs : List (Pcs nw)} {x : Pcs nw} {s t : Nat} (hg : Goes (· = ws) e s (xs ++ [x]) t) (ha : ∀ y ∈ xs, ¬ hit m y.1) (hx : hit m x.1) (hs : s ≤ e) :
    nextV (other bs m) (e - s) s = some (x.1.k * 64 + x.1.a + lowX m x.1) := by
  obtain ⟨r, h1, h2, h3⟩ := hg.split
  have hr := h1.length
  obtain ⟨l1, l2⟩ := low_hit (x.1.v ^^^ m) x.1.n (by have := x.2.2.1; omega) hx
  have hl : lowX m x.1 < x.1.n := hx
  have hn := h3.2.2.1
  have e1 : x.1.k * 64 + x.1.a + lowX m x.1 = s + (r + lowX m x.1 - s) := by rw [h3.1, h3.2.1]; omega
  rw [e1]
  refine nextV_hit _ _ _ _ (by omega) (fun j hj => ?_) ?_
  · by_cases hj2 : s + j < r
    · exact Goes.miss h hm he h1 ha (s + j) (by omega) hj2
    · have hb := l2 (s + j - r) (show s + j - r < lowFrom (x.1.v ^^^ m) 0 64 by have : lowX m x.1 = lowFrom (x.1.v ^^^ m) 0 64 := rfl; omega)
      rw [piece_bit h hm he h3 h2 x.2.2.1 (s + j - r) (by omega), show r + (s + j - r) = s + j by omega] at hb
      exact hb
  · have hb := l1
    rw [show lowFrom (x.1.v ^^^ m) 0 64 = lowX m x.1 from rfl, piece_bit h hm he h3 h2 x.2.2.1 (lowX m x.1) hl] at hb
    rw [show s + (r + lowX m x.1 - s) = r + lowX m x.1 by omega]
    exact hb
theorem tableKeep {w w' : World} (h : Table w) (k : Kept [] w w') : Table w' := fun i hi => by
  have hc := h i hi
  rw [← hc]
  exact World.cell?_of_block (k.old _ (World.block_lt_of_cell? w _ hc) (by simp))

theorem has_put {W : World} {b : Nat} {t : TypeId} {cs : List Value} (h : Has W b t cs) (D : Nat) (o o' : Obj) (hD : W.heap[D]? = some o) (hc : o.isCells = false) : Has (W.putObj D o') b t cs := (CellsKept.put (S := []) W D o o' hD hc).has (by simp) h
theorem put_other {W : World} {p : Addr} {u : Value} {D : Nat} (hD : p.block ≠ D) : (W.setCell p u).heap[D]? = W.heap[D]? := heap_setCell_other W p D u (fun e => hD e.symm)
theorem up_reads {p q N : Nat} {ws : List Int} (w : World) (h : Vec w p q N ws) (i e : Nat) :
    Calls Tryd.prog 40 #[.pointer (some ⟨p, 0, none⟩), .int .i64 i, .int .i64 e] w fun r w' => r = .returned (.func (.func 48) #[] #[.pointer (some ⟨w.heap.size + 1, 0, none⟩), .pointer (some ⟨w.heap.size + 2, 0, none⟩), .pointer (some ⟨w.heap.size, 0, none⟩)]) ∧ Reads (· = ws) w' p q N (w.heap.size + 1) (w.heap.size + 2) w.heap.size i e ∧ Kept [] w w' := by
  refine (up_ok 0 i e (some ⟨p, 0, none⟩) w).mono ?_
  rintro r w0 ⟨rfl, rfl⟩
  have hk0 : Kept [] w (((w.alloc (.cells #[.pointer (some ⟨p, 0, none⟩)] 47)).alloc (.cells #[.int .i64 (i : Int)] 3)).alloc (.cells #[.int .i64 (e : Int)] 3)) := (((Kept.refl [] w).alloc _).alloc _).alloc _
  have h1 := ((Has.new w 47 [.pointer (some ⟨p, 0, none⟩)]).alloc (.cells #[.int .i64 (i : Int)] 3)).alloc (.cells #[.int .i64 (e : Int)] 3)
  have h2 := (Has.new (w.alloc (.cells #[.pointer (some ⟨p, 0, none⟩)] 47)) 3 [.int .i64 (i : Int)]).alloc (.cells #[.int .i64 (e : Int)] 3)
  have h3 := Has.new ((w.alloc (.cells #[.pointer (some ⟨p, 0, none⟩)] 47)).alloc (.cells #[.int .i64 (i : Int)] 3)) 3 [.int .i64 (e : Int)]
  rw [World.size_alloc] at h2
  rw [World.size_alloc, World.size_alloc] at h3
  exact ⟨rfl, ⟨h.head.keep0 hk0, ⟨ws, rfl, h.row.keep0 hk0⟩, h2, h3, h1⟩, hk0⟩

set_option maxRecDepth 100000 in
set_option maxHeartbeats 4000000 in
theorem seek_yes (bs : List Bool) (p q : Nat) (w : World) (hv : Bv w p q bs) (hT : Table w) (i : Int) (i1 : -9223372036854775808 ≤ i) (i2 : i ≤ 9223372036854775807) (m : Nat) (hm : m = 0 ∨ m = 18446744073709551615) (o : Option Nat) (ho : nextV (other bs m) (bs.length - i.toNat) i.toNat = o) :
    Calls Tryd.prog 52 #[.pointer (some ⟨p, 0, none⟩), .int .i64 i, .int .u64 m] w fun e w' => e = .returned (.tuple #[.int .i64 (atI o), .bool o.isSome]) ∧ Kept [] w w' := by
  obtain ⟨ws, hV, hM⟩ := hv
  have hf := hV.few
  have hpz : p < w.heap.size := hV.head.lt
  have hqz : q < w.heap.size := hV.row.lt
  have HV := Lib.hid hV
  have HM := Lib.hid hM
  have HT := Lib.hid hT
  have Hm := Lib.hid hm
  have Ho := Lib.hid ho
  clear hV hM hT hm ho
  refine (callsIn_wide (n := 5)).1 ?_
  refine callsIn_of_wp_marks Tryd.func52 rfl trivial ?_ rfl
  simp only [Tryd.ntmps52, List.size_toArray, List.length_cons, List.length_nil, Nat.reduceAdd, Nat.reduceSub, Array.replicate_succ, Array.replicate_zero, List.push_toArray, List.append_toArray, List.nil_append, List.cons_append]
  gi_wp2_with (fail)
  have hk3 : Kept [] w (((w.alloc (.cells #[.int .u64 m] 78)).alloc (.cells #[.int .i64 0] 3)).alloc (.cells #[.bool false] 4)) := (((Kept.refl [] w).alloc _).alloc _).alloc _
  have hc5 := ((Has.new w 78 [.int .u64 (m : Int)]).alloc (.cells #[.int .i64 0] 3)).alloc (.cells #[.bool false] 4)
  have hc6 := (Has.new (w.alloc (.cells #[.int .u64 (m : Int)] 78)) 3 [.int .i64 0]).alloc (.cells #[.bool false] 4)
  have hc7 := Has.new ((w.alloc (.cells #[.int .u64 (m : Int)] 78)).alloc (.cells #[.int .i64 0] 3)) 4 [.bool false]
  rw [World.size_alloc] at hc6
  rw [World.size_alloc, World.size_alloc] at hc7
  have hz3 : (((w.alloc (.cells #[.int .u64 m] 78)).alloc (.cells #[.int .i64 0] 3)).alloc (.cells #[.bool false] 4)).heap.size = w.heap.size + 1 + 1 + 1 := by simp
  obtain ⟨w3, hw3⟩ : ∃ w3, (((w.alloc (.cells #[.int .u64 m] 78)).alloc (.cells #[.int .i64 0] 3)).alloc (.cells #[.bool false] 4)) = w3 := ⟨_, rfl⟩
  have hw3' : (((w.alloc (.cells [.int .u64 (m : Int)].toArray 78)).alloc (.cells #[.int .i64 0] 3)).alloc (.cells #[.bool false] 4)) = w3 := hw3
  rw [hw3] at hk3 hz3 ⊢
  rw [hw3'] at hc5
  have hc6' : Has w3 (w.heap.size + 1) 3 [.int .i64 0] := by rw [← hw3]; exact hc6
  have hc7' : Has w3 (w.heap.size + 1 + 1) 4 [.bool false] := by rw [← hw3]; exact hc7
  clear hc6 hc7 hw3 hw3'
  have hV3 := HV.out.keep0 hk3
  have HL := Lib.hid (len_ok w3 hV3)
  have HU := Lib.hid (up_reads w3 hV3 i.toNat bs.length)
  have Hz3 := Lib.hid hz3
  have Hk3 := Lib.hid hk3
  have Hc5 := Lib.hid hc5
  have Hc6 := Lib.hid hc6'
  have Hc7 := Lib.hid hc7'
  clear hV3 hz3 hk3 hc5 hc6' hc7'
  refine ⟨trivial, (callsIn_wide.2 HL.out).mono ?_⟩
  rintro e w' ⟨rfl, rfl⟩
  have Emax := Lib.hid (show max i 0 = ((i.toNat : Nat) : Int) by omega)
  gi_wp2_with (fail)
  rw [Emax.out]
  refine ⟨trivial, (callsIn_wide.2 HU.out).mono ?_⟩
  rintro e0 w0 ⟨rfl, hR, hk0⟩
  rw [Hz3.out] at hR ⊢
  have HR := Lib.hid hR
  have Hk0 := Lib.hid hk0
  clear hR hk0
  gi_wp2_with (fail)
  have Hkw := Lib.hid (Hk3.out.trans Hk0.out)
  refine wpIn_rangeFunc_ownH rfl (by decide) (gf := 48) (lb := #[.pointer (some ⟨w.heap.size + 1 + 1 + 1 + 1, 0, none⟩), .pointer (some ⟨w.heap.size + 1 + 1 + 1 + 2, 0, none⟩), .pointer (some ⟨w.heap.size + 1 + 1 + 1, 0, none⟩)]) rfl trivial (enters_of Tryd.func48 (by kernel_rfl) rfl)
    (up_stops 4 (by decide) (· = ws) (good_of HV.out) [] p q bs.length (w.heap.size + 1 + 1 + 1 + 1) (w.heap.size + 1 + 1 + 1 + 2) (w.heap.size + 1 + 1 + 1) i.toNat bs.length hf (Nat.le_refl _) (by simp) w0 (by simp) HR.out)
    (fun h k => h.trans k) (fun W l o o' _ h hc _ => Keeps.put W l o o' h hc) (Below.refl _ _) (fun _ => rfl)
    (fun pre W => (∀ x ∈ pre, ¬ hit m x.1) ∧ Has W w.heap.size 78 [.int .u64 (m : Int)] ∧ Has W (w.heap.size + 1) 3 [.int .i64 0] ∧ Has W (w.heap.size + 1 + 1) 4 [.bool false] ∧ Kept [] w W)
    (fun c pre W => (c = .ret ∧ ∃ ys x, pre = ys ++ [x] ∧ (∀ y ∈ ys, ¬ hit m y.1) ∧ hit m x.1 ∧ Has W (w.heap.size + 1) 3 [.int .i64 ((x.1.k * 64 + x.1.a + lowX m x.1 : Nat) : Int)] ∧ Has W (w.heap.size + 1 + 1) 4 [.bool true]) ∧ Kept [] w W)
    (OwnFrom.and (ownFrom_pure _ _) (OwnFrom.and own_has (OwnFrom.and own_has (OwnFrom.and own_has (own_kept Hkw.out.more)))))
    (fun c => OwnFrom.and (fun pre X Y row hs hg hr => by
      obtain ⟨hc, ys, x, h1, h2, h3, h4, h5⟩ := hs
      exact ⟨hc, ys, x, h1, h2, h3, own_has (β := Unit) (f := fun _ => [.int .i64 ((x.1.k * 64 + x.1.a + lowX m x.1 : Nat) : Int)]) () X Y row h4 hg hr, own_has (β := Unit) (f := fun _ => [.bool true]) () X Y row h5 hg hr⟩) (own_kept Hkw.out.more))
    ⟨(by simp), Hc5.out.keep0 Hk0.out, Hc6.out.keep0 Hk0.out, Hc7.out.keep0 Hk0.out, Hkw.out⟩
    (fun x a' W => ∃ Bx, Has W Bx 77 [.int .i64 ((x.1.k : Nat) : Int), .int .i64 ((x.1.a : Nat) : Int), .int .i64 ((x.1.n : Nat) : Int)] ∧ a' = { tmps := #[.pointer (some ⟨p, 0, none⟩), .int .i64 i, .int .u64 m, undef, undef, .pointer (some ⟨w.heap.size, 0, none⟩), .pointer (some ⟨w.heap.size + 1, 0, none⟩), .pointer (some ⟨w.heap.size + 1 + 1, 0, none⟩), .pointer (some ⟨Bx, 0, none⟩), .int .u64 ((x.1.v : Nat) : Int), undef, .pointer (some ⟨p, 0, none⟩), .int .i64 i, .int .i64 (max i 0), .pointer (some ⟨p, 0, none⟩), .int .i64 (bs.length : Nat), .func (.func 48) #[] #[.pointer (some ⟨w.heap.size + 1 + 1 + 1 + 1, 0, none⟩), .pointer (some ⟨w.heap.size + 1 + 1 + 1 + 2, 0, none⟩), .pointer (some ⟨w.heap.size + 1 + 1 + 1, 0, none⟩)], pieceV x.1.k x.1.a x.1.n, .int .u64 ((x.1.v : Nat) : Int), undef, undef, undef, undef, undef, undef, undef, undef, undef, undef, undef, undef], defers := [] })
    (fun x a' _ X Y row hs hg hr => by
      obtain ⟨Bx, h2, h3⟩ := hs
      exact ⟨Bx, own_has (β := Unit) (f := fun _ => [.int .i64 ((x.1.k : Nat) : Int), .int .i64 ((x.1.a : Nat) : Int), .int .i64 ((x.1.n : Nat) : Int)]) () X Y row h2 hg hr, h3⟩)
    ?assign ?body ?done ?stop
  case assign =>
    rintro l pre x W K hi hK
    unfold encs pieceV
    have HK := Lib.hid hK
    have HI := Lib.hid hi
    clear hi hK
    gi_wp2
    have hkn : Kept [] W (W.alloc (.cells #[.int .i64 ((x.1.k : Nat) : Int), .int .i64 ((x.1.a : Nat) : Int), .int .i64 ((x.1.n : Nat) : Int)] 77)) := (Kept.refl [] W).alloc _
    exact HK.out _ _ (keepsFrom_of hkn (by simp)) (Keeps.of (CellsKept.of_kept hkn) (by simp)) ⟨HI.out.1, HI.out.2.1.keep0 hkn, HI.out.2.2.1.keep0 hkn, HI.out.2.2.2.1.keep0 hkn, HI.out.2.2.2.2.trans hkn⟩ ⟨W.heap.size, Has.new W _ _, rfl⟩
  case body =>
    rintro l pre x a' W _ _ ⟨hmi, h5, h6, h7, hk⟩ ⟨Bx, hX, rfl⟩ hlen
    have c5 := h5.cell 0
    have c6 := h6.cell 0
    have f6 := h6.free 0
    have c7 := h7.cell 0
    have f7 := h7.free 0
    have x0 := hX.cell 0
    have x1 := hX.cell 1
    have x2 := hX.cell 2
    simp at c5 c6 c7 x0 x1 x2
    obtain ⟨hx1, hx2, hx3, hx4⟩ := x.2
    have hml : m < 18446744073709551616 := by have := Hm.out; omega
    have Ex := Lib.hid (u64_xor_nat x.1.v m hx4 hml)
    have hxl : x.1.v ^^^ m < 18446744073709551616 := Nat.xor_lt_two_pow (n := 64) hx4 hml
    have hLow : Calls Tryd.prog 57 #[.int .u64 ((x.1.v ^^^ m : Nat) : Int)] W fun e w' => e = .returned (.int .i64 ((lowX m x.1 : Nat) : Int)) ∧ W = w' := by
      have h := low_any ((x.1.v ^^^ m : Nat) : Int) (by omega) (by omega) W (tableKeep HT.out hk)
      unfold lowV at h
      rw [Int.toNat_natCast] at h
      exact h
    have hLl : lowX m x.1 ≤ 64 := by have := low_le (x.1.v ^^^ m) 0 64; unfold lowX; omega
    have hhit : hit m x.1 ↔ lowX m x.1 < x.1.n := Iff.rfl
    obtain ⟨L, hL⟩ : ∃ L, L = lowX m x.1 := ⟨_, rfl⟩
    rw [← hL] at hLow hLl hhit
    have hkb : x.1.k ≤ 65536 := by omega
    have Hf := fun W => Lib.hid (first_ok x.1.k x.1.a x.1.n hkb (by omega) W)
    have HLow := Lib.hid hLow
    have HL := Lib.hid hL
    have Hhit := Lib.hid hhit
    have Hmi := Lib.hid hmi
    have H5 := Lib.hid h5
    have H6 := Lib.hid h6
    have H7 := Lib.hid h7
    have Hk := Lib.hid hk
    have HX := Lib.hid hX
    clear hLow hL hhit hmi h5 h6 h7 hk hX
    by_cases hlt : L < x.1.n
    · gi_wp2_with (fail)
      rw [Ex.out]
      refine ⟨trivial, (CallsIn.inRound l (callsIn_wide.2 HLow.out)).mono ?_⟩
      rintro e1 W1 ⟨rfl, rfl⟩
      gi_wp2_with (fail)
      refine ⟨trivial, (CallsIn.inRound l (callsIn_wide.2 (Hf W).out)).mono ?_⟩
      rintro e1 W1 ⟨rfl, hk1⟩
      have c6 := (H6.out.keep0 hk1).cell 0
      have f6 := (H6.out.keep0 hk1).free 0
      have c7 := (H7.out.keep0 hk1).cell 0
      have f7 := (H7.out.keep0 hk1).free 0
      simp at c6 c7
      have Hk1 := Lib.hid hk1
      clear hk1
      gi_wp2_with (fail)
      have hKS : Kept [w.heap.size + 1, w.heap.size + 1 + 1] W ((W1.setCell ⟨w.heap.size + 1, 0, none⟩ (.int .i64 ((x.1.k : Int) * 64 + (x.1.a : Int) + (L : Int)))).setCell ⟨w.heap.size + 1 + 1, 0, none⟩ (.bool true)) :=
        ((Hk1.out.none _).setCell _ _ (.inl (by simp))).setCell _ _ (.inl (by simp))
      have h6 := ((H6.out.keep0 Hk1.out).put 0 (.int .i64 ((x.1.k : Int) * 64 + (x.1.a : Int) + (L : Int)))).beside ⟨w.heap.size + 1 + 1, 0, none⟩ (by simp) (.bool true)
      have h7 := ((H7.out.keep0 Hk1.out).beside ⟨w.heap.size + 1, 0, none⟩ (by simp) (.int .i64 ((x.1.k : Int) * 64 + (x.1.a : Int) + (L : Int)))).put 0 (.bool true)
      refine ⟨keepsFrom_of hKS (fun b hb => ?_), ⟨rfl, pre, x, rfl, Hmi.out, Hhit.out.2 hlt, ?_, h7⟩, ((Hk.out.trans Hk1.out).setCell _ _ (.inr (by first | (simp; done) | (simp; omega)))).setCell _ _ (.inr (by first | (simp; done) | (simp; omega)))⟩
      · rcases List.mem_cons.1 hb with rfl | hb
        · exact ⟨_, _, H6.out⟩
        · obtain rfl := List.mem_singleton.1 hb
          exact ⟨_, _, H7.out⟩
      · rw [← HL.out, Int.natCast_add, Int.natCast_add, Int.natCast_mul]
        exact h6
    · gi_wp2_with (fail)
      rw [Ex.out]
      refine ⟨trivial, (CallsIn.inRound l (callsIn_wide.2 HLow.out)).mono ?_⟩
      rintro e1 W1 ⟨rfl, rfl⟩
      gi_wp2_with (fail)
      refine ⟨KeepsFrom.refl _ _, Keeps.of (CellsKept.of_kept (Kept.refl _ W)) (by simp), fun y hy => ?_, H5.out, H6.out, H7.out, Hk.out⟩
      rcases List.mem_append.1 hy with h | h
      · exact Hmi.out y h
      · rw [List.mem_singleton.1 h, Hhit.out]
        exact hlt
  case done =>
    rintro D xs W hD ⟨t, hg, ht⟩ ⟨hmi, h5, h6, h7, hk⟩ hK
    have c6 := h6.cell 0
    have f6 := h6.free 0
    have c7 := h7.cell 0
    have f7 := h7.free 0
    simp at c6 c7
    have ht2 : bs.length - i.toNat = 0 ∨ t = bs.length := by
      by_cases hi : i.toNat ≤ bs.length
      · exact .inr (by have := hg.le hi; omega)
      · exact .inl (by omega)
    have hn : nextV (other bs m) (bs.length - i.toNat) i.toNat = none := nextV_none _ _ _ fun j hj => Goes.miss HM.out Hm.out (Nat.le_refl _) hg hmi (i.toNat + j) (by omega) (by omega)
    rw [Ho.out] at hn
    have Hn := Lib.hid hn
    have HKd := Lib.hid hK
    have Hk := Lib.hid hk
    have H6 := Lib.hid h6
    have H7 := Lib.hid h7
    clear hn hK hk h6 h7 hmi hg ht2
    gi_wp2
    have hD1 : w.heap.size + 1 ≠ D := by have := Hc7.out.lt; have := Hk0.out.more; omega
    have hD2 : w.heap.size + 1 + 1 ≠ D := by have := Hc7.out.lt; have := Hk0.out.more; omega
    have hK2 : ((W.setCell ⟨w.heap.size + 1, 0, none⟩ (.int .i64 0)).setCell ⟨w.heap.size + 1 + 1, 0, none⟩ (.bool false)).heap[D]? = some (.deferred (some [])) := by
      rw [put_other hD2, put_other hD1]
      exact HKd.out
    have h6 := has_put ((H6.out.put 0 (.int .i64 0)).beside ⟨w.heap.size + 1 + 1, 0, none⟩ (by simp) (.bool false)) D _ (.deferred none) hK2 rfl
    have h7 := has_put ((H7.out.beside ⟨w.heap.size + 1, 0, none⟩ (by simp) (.int .i64 0)).put 0 (.bool false)) D _ (.deferred none) hK2 rfl
    have d6 := h6.cell 0
    have d7 := h7.cell 0
    simp at d6 d7
    refine ⟨by simp, .inl ⟨_, _, rfl, run_takeDeferred hK2, ?_⟩⟩
    refine ⟨.tuple #[.int .i64 0, .bool false], ?_, ?_, kept_put (((Hk.out).setCell _ _ (.inr (by first | (simp; done) | (simp; omega)))).setCell _ _ (.inr (by first | (simp; done) | (simp; omega)))) D _ (Nat.le_trans Hkw.out.more hD)⟩
    · simp [results, Tryd.results52, go_sem, d6, d7]
    · rw [Hn.out]
      rfl
  case stop =>
    rintro D c pre W hD ⟨t, hg⟩ ⟨⟨rfl, ys, x, rfl, hmi, hx, h6, h7⟩, hk⟩ hK
    have c6 := h6.cell 0
    have c7 := h7.cell 0
    simp at c6 c7
    have hfnd : ∃ r, r = x.1.k * 64 + x.1.a + lowX m x.1 := ⟨_, rfl⟩
    by_cases hi : i.toNat ≤ bs.length
    · have hf2 := Goes.found HM.out Hm.out (Nat.le_refl _) hg hmi hx hi
      rw [Ho.out] at hf2
      have Hf2 := Lib.hid hf2
      have HKd := Lib.hid hK
      have Hk := Lib.hid hk
      have H6 := Lib.hid h6
      have H7 := Lib.hid h7
      clear hf2 hK hk h6 h7 hmi hg hx hfnd
      gi_wp2
      have d6 := (has_put H6.out D _ (.deferred none) HKd.out rfl).cell 0
      have d7 := (has_put H7.out D _ (.deferred none) HKd.out rfl).cell 0
      simp only [List.getElem?_cons_zero] at d6 d7
      refine ⟨by simp, .inl ⟨_, _, rfl, run_takeDeferred HKd.out, ?_⟩⟩
      refine ⟨.tuple #[.int .i64 ((x.1.k * 64 + x.1.a + lowX m x.1 : Nat) : Int), .bool true], ?_, ?_, kept_put Hk.out D _ (Nat.le_trans Hkw.out.more hD)⟩
      · simp [results, Tryd.results52, go_sem, d6, d7]
      · rw [Hf2.out]
        rfl
    · obtain ⟨r, h1, h2, _⟩ := hg.split
      have := h1.length
      omega
end Go.Proofs.YtijlaganpnoefaaDoor.Bt
