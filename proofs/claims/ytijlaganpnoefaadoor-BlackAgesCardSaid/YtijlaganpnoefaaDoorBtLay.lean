/-
  The contracts of lay, Set, Clear, SetRun and ClearRun.
-/
import Derived.Test.YtijlaganpnoefaaDoorBtPrev
import Derived.Test.YtijlaganpnoefaaDoorRoundStore
namespace Go.Proofs.YtijlaganpnoefaaDoor.Bt
open Go.RowKit Go.Proofs.YtijlaganpnoefaaDoor.Ar Go.Proofs.YtijlaganpnoefaaDoor.Wd Go.Shelf Go.Sort
set_option linter.unusedVariables false
attribute [local go_sem] Oper.semAt_some

/-- A piece all of whose bits are st. -/
def fill (st : Bool) (n : Nat) : Nat := if st then 2 ^ n - 1 else 0
theorem fill_lt (st : Bool) (n : Nat) : fill st n < 2 ^ n := by
  have := Nat.two_pow_pos n
  unfold fill
  split <;> omega
theorem fill_bit (st : Bool) (n j : Nat) (hj : j < n) : (fill st n).testBit j = st := by
  unfold fill
  cases st with
  | true => rw [if_pos rfl, Nat.testBit_two_pow_sub_one]; exact decide_eq_true hj
  | false => rw [if_neg (by decide), Nat.zero_testBit]
/-- All bits of a word. -/
def full (st : Bool) : Nat := if st then 18446744073709551615 else 0
theorem full_cut (st : Bool) (n : Nat) (hn : n ≤ 64) : full st / 2 ^ (64 - n) = fill st n := by
  unfold full fill
  cases st with
  | false => simp
  | true =>
    simp only [if_true]
    have e : (18446744073709551616 : Nat) = 2 ^ n * 2 ^ (64 - n) := by rw [← Nat.pow_add, show n + (64 - n) = 64 by omega]
    have hp := Nat.two_pow_pos (64 - n)
    have hn0 := Nat.two_pow_pos n
    have e2 : (18446744073709551615 : Nat) = (2 ^ n - 1) * 2 ^ (64 - n) + (2 ^ (64 - n) - 1) := by
      rw [Nat.sub_mul, Nat.one_mul]
      have : 2 ^ (64 - n) ≤ 2 ^ n * 2 ^ (64 - n) := Nat.le_mul_of_pos_left _ hn0
      omega
    rw [e2, Nat.mul_comm, Nat.mul_add_div hp, Nat.div_eq_of_lt (by omega)]
    rfl
def Gw (ws : List Int) : Prop := ws.length = 1024 ∧ ∀ j, 0 ≤ ws.getD j 0 ∧ ws.getD j 0 < 18446744073709551616
theorem good_w : Good Gw := fun _ h => h
/-- A piece laid into the words; all pieces. -/
def layOne (st : Bool) {nw : Nat} (ws : List Int) (x : Pcs nw) : List Int := ws.set x.1.k ((put (ws.getD x.1.k 0).toNat x.1.a x.1.n (fill st x.1.n) : Nat) : Int)
def layAll (st : Bool) {nw : Nat} (ws : List Int) (xs : List (Pcs nw)) : List Int := xs.foldl (layOne st) ws
theorem layAll_snoc (st : Bool) {nw : Nat} (ws : List Int) (xs : List (Pcs nw)) (x : Pcs nw) : layAll st ws (xs ++ [x]) = layOne st (layAll st ws xs) x := by unfold layAll; rw [List.foldl_append]; rfl
theorem Gw.one {ws : List Int} (h : Gw ws) (st : Bool) {nw : Nat} (x : Pcs nw) : Gw (layOne st ws x) := by
  unfold layOne
  refine ⟨by rw [List.length_set]; exact h.1, fun j => ?_⟩
  by_cases hj : x.1.k = j
  · by_cases hl : x.1.k < ws.length
    · have hp := put_lt (ws.getD x.1.k 0).toNat x.1.a x.1.n (fill st x.1.n) (by have := h.2 x.1.k; omega) x.2.2.1 (fill_lt _ _)
      rw [List.getD, ← hj, List.getElem?_set_self hl]
      show 0 ≤ ((put (ws.getD x.1.k 0).toNat x.1.a x.1.n (fill st x.1.n) : Nat) : Int) ∧ _ < _
      constructor
      · omega
      · show ((put (ws.getD x.1.k 0).toNat x.1.a x.1.n (fill st x.1.n) : Nat) : Int) < _
        omega
    · rw [List.getD, List.getElem?_eq_none (by rw [List.length_set]; omega)]
      exact ⟨Int.le_refl _, by decide⟩
  · rw [List.getD, List.getElem?_set_ne hj]
    exact h.2 j
theorem Gw.all {ws : List Int} (h : Gw ws) (st : Bool) {nw : Nat} (xs : List (Pcs nw)) : Gw (layAll st ws xs) := by
  unfold layAll
  induction xs generalizing ws with
  | nil => exact h
  | cons x xs ih => exact ih (h.one st x)
theorem Goes.lay {bs : List Bool} {ws : List Int} (h : Means bs ws) (hG : Gw ws) (hl : bs.length ≤ 65536) {G : List Int → Prop} {e : Nat} (he : e ≤ bs.length) (st : Bool) {nw : Nat} : ∀ {xs : List (Pcs nw)} {s t : Nat}, Goes G e s xs t → s ≤ e → Means (laid bs s (t - s) st) (layAll st ws xs)
  | [], s, t, hg, _ => by
    have h' : t = s := hg
    subst h'
    rw [Nat.sub_self, laid_none]
    exact h
  | x :: xs, s, t, ⟨h1, ⟨h2, h3, h4, _⟩, h7⟩, hs => by
    have hn := x.2.1
    have ht := Goes.length h7
    have hw := hG.2 (s / 64)
    have hM : Means (laid bs s x.1.n st) (layOne st ws x) := by
      unfold layOne
      rw [h2, h3]
      exact h.put hG.1 hl s x.1.n st (fill st x.1.n) (by omega) (by omega) hn (by omega) (fill_lt _ _) (fun j hj => fill_bit st _ j hj)
    have ih := Goes.lay (bs := laid bs s x.1.n st) hM (hG.one st x) (by rw [laid_length]; exact hl) (by rw [laid_length]; exact he) st h7 (by omega)
    rw [laid_more, show x.1.n + (t - (s + x.1.n)) = t - s by omega] at ih
    exact ih
theorem layV_ok (v : Int) (a n x : Nat) (h1 : 1 ≤ n) (h2 : a + n ≤ 64) (hx : x < 2 ^ n) : layV v a n x = ((put v.toNat a n x : Nat) : Int) := by
  unfold layV
  rw [if_pos ((layB_iff _ _ _).2 ⟨(okB_iff _ _).2 (by omega), by simpa using hx⟩)]
  simp

set_option maxRecDepth 100000 in
set_option maxHeartbeats 4000000 in
theorem lay_yes (bs : List Bool) (p q : Nat) (w : World) (hv : Bv w p q bs) (i n : Nat) (hin : i + n ≤ bs.length) (st : Bool) :
    Calls Tryd.prog 44 #[.pointer (some ⟨p, 0, none⟩), .int .i64 i, .int .i64 n, .int .u64 (full st : Nat)] w fun e w' => e = .returned (.int .i64 0) ∧ Bv w' p q (laid bs i n st) ∧ Kept [q] w w' := by
  obtain ⟨ws, hV, hM⟩ := hv
  have hf := hV.few
  have hpq := hV.ne
  have hqz : q < w.heap.size := hV.row.lt
  have hpz : p < w.heap.size := hV.head.lt
  have HV := Lib.hid hV
  have HM := Lib.hid hM
  have HG : Hid (Gw ws) := Lib.hid ⟨hV.len, hV.word⟩
  clear hV hM
  generalize hfs : full st = fs
  have Hfs := Lib.hid hfs
  clear hfs
  refine (callsIn_wide (n := 5)).1 ?_
  refine callsIn_of_wp_marks Tryd.func44 rfl trivial ?_ rfl
  simp only [Tryd.ntmps44, List.size_toArray, List.length_cons, List.length_nil, Nat.reduceAdd, Nat.reduceSub, Array.replicate_succ, Array.replicate_zero, List.push_toArray, List.append_toArray, List.nil_append, List.cons_append]
  gi_wp2_with (fail)
  have hk3 : Kept [] w ((w.alloc (.cells #[.pointer (some ⟨p, 0, none⟩)] 47)).alloc (.cells #[.int .u64 fs] 78)) := ((Kept.refl [] w).alloc _).alloc _
  have hc6 := (Has.new w 47 [.pointer (some ⟨p, 0, none⟩)]).alloc (.cells #[.int .u64 fs] 78)
  have hc7 := Has.new (w.alloc (.cells #[.pointer (some ⟨p, 0, none⟩)] 47)) 78 [.int .u64 fs]
  rw [World.size_alloc] at hc7
  have hz3 : ((w.alloc (.cells #[.pointer (some ⟨p, 0, none⟩)] 47)).alloc (.cells #[.int .u64 fs] 78)).heap.size = w.heap.size + 1 + 1 := by simp
  obtain ⟨w3, hw3⟩ : ∃ w3, ((w.alloc (.cells #[.pointer (some ⟨p, 0, none⟩)] 47)).alloc (.cells #[.int .u64 fs] 78)) = w3 := ⟨_, rfl⟩
  rw [hw3] at hk3 hz3 ⊢
  have hc6' : Has w3 w.heap.size 47 [.pointer (some ⟨p, 0, none⟩)] := by rw [← hw3]; exact hc6
  have hc7' : Has w3 (w.heap.size + 1) 78 [.int .u64 fs] := by rw [← hw3]; exact hc7
  clear hc6 hc7 hw3
  have hck := check_ok w3 (HV.out.keep0 hk3) i n (by omega) (by omega) (by omega) (by omega)
  rw [show errOf (within bs.length i n) = 0 from by rw [(within_iff _ _ _).2 (by omega)]; rfl] at hck
  have hup := up_reads w3 (HV.out.keep0 hk3) i (i + n)
  have c4 := hc6'.cell 0
  simp at c4
  have Hck := Lib.hid hck
  have Hup := Lib.hid hup
  have Hz3 := Lib.hid hz3
  have Hk3 := Lib.hid hk3
  have Hc6 := Lib.hid hc6'
  have Hc7 := Lib.hid hc7'
  clear hz3 hk3 hc6' hc7' hck hup
  refine ⟨trivial, (callsIn_wide.2 Hck.out).mono ?_⟩
  rintro e w' ⟨rfl, rfl⟩
  gi_wp2_with (fail)
  rw [show (i : Int) + (n : Int) = ((i + n : Nat) : Int) by omega]
  refine ⟨trivial, (callsIn_wide.2 Hup.out).mono ?_⟩
  rintro e0 w0 ⟨rfl, hR, hk0⟩
  rw [Hz3.out] at hR ⊢
  have HR := Lib.hid hR
  have Hk0 := Lib.hid hk0
  clear hR hk0
  gi_wp2_with (fail)
  have Hkw := Lib.hid (Hk3.out.trans Hk0.out)
  refine wpIn_rangeFunc_ownH rfl (by decide) (gf := 48) (lb := #[.pointer (some ⟨w.heap.size + 1 + 1 + 1, 0, none⟩), .pointer (some ⟨w.heap.size + 1 + 1 + 2, 0, none⟩), .pointer (some ⟨w.heap.size + 1 + 1, 0, none⟩)]) rfl trivial (enters_of Tryd.func48 (by kernel_rfl) rfl)
    (up_stops 4 (by decide) Gw good_w [q] p q bs.length (w.heap.size + 1 + 1 + 1) (w.heap.size + 1 + 1 + 2) (w.heap.size + 1 + 1) i (i + n) hf hin (by simp; omega) w0 (by simp; have := Hkw.out.more; omega)
      ⟨HR.out.head, (let ⟨ws', h1, h2⟩ := HR.out.row; ⟨ws', by subst h1; exact HG.out, h2⟩), HR.out.from', HR.out.below, HR.out.vec⟩)
    (fun h k => h.trans k) (fun W l o o' _ h hc _ => Keeps.put W l o o' h hc) (Below.refl _ _) (fun _ => rfl)
    (fun pre W => Has W q 81 (ints (layAll st ws pre)) ∧ Has W w.heap.size 47 [.pointer (some ⟨p, 0, none⟩)] ∧ Has W (w.heap.size + 1) 78 [.int .u64 fs] ∧ Has W p 68 [.int .i64 (bs.length : Nat), .slice (some ⟨q, 0, none⟩) ((bs.length + 63) / 64) 1024] ∧ Kept [q] w W)
    (fun _ _ _ => False)
    (OwnFrom.and own_has (OwnFrom.and own_has (OwnFrom.and own_has (OwnFrom.and own_has (own_kept Hkw.out.more)))))
    (fun _ _ _ _ _ hs _ _ => hs)
    ⟨HV.out.row.keep0 Hkw.out, Hc6.out.keep0 Hk0.out, Hc7.out.keep0 Hk0.out, HV.out.head.keep0 Hkw.out, Hkw.out.none _⟩
    (fun x a' W => ∃ Bx, Has W Bx 77 [.int .i64 ((x.1.k : Nat) : Int), .int .i64 ((x.1.a : Nat) : Int), .int .i64 ((x.1.n : Nat) : Int)] ∧ a' = { tmps := #[.pointer (some ⟨p, 0, none⟩), .int .i64 i, .int .i64 n, .int .u64 fs, .pointer (some ⟨w.heap.size, 0, none⟩), undef, undef, .pointer (some ⟨w.heap.size + 1, 0, none⟩), .int .i64 0, .int .i64 0, .pointer (some ⟨Bx, 0, none⟩), .pointer (some ⟨p, 0, none⟩), .int .i64 i, .int .i64 n, .int .i64 0, .int .i64 0, .bool false, undef, .pointer (some ⟨p, 0, none⟩), .int .i64 i, .int .i64 i, .int .i64 n, .int .i64 ((i : Int) + (n : Int)), .func (.func 48) #[] #[.pointer (some ⟨w.heap.size + 1 + 1 + 1, 0, none⟩), .pointer (some ⟨w.heap.size + 1 + 1 + 2, 0, none⟩), .pointer (some ⟨w.heap.size + 1 + 1, 0, none⟩)], pieceV x.1.k x.1.a x.1.n, .int .u64 ((x.1.v : Nat) : Int), undef, undef, undef, undef, undef, undef, undef, undef, undef, undef, undef, undef, undef, undef, undef, undef, undef, undef, undef, undef, undef, undef, undef, undef, undef, undef, undef, undef, undef, undef, undef], defers := [] })
    (fun x a' _ X Y row hs hg hr => by
      obtain ⟨Bx, h2, h3⟩ := hs
      exact ⟨Bx, own_has (β := Unit) (f := fun _ => [.int .i64 ((x.1.k : Nat) : Int), .int .i64 ((x.1.a : Nat) : Int), .int .i64 ((x.1.n : Nat) : Int)]) () X Y row h2 hg hr, h3⟩)
    ?assign ?body ?done ?stop
  case assign =>
    rintro l pre x W K hi hK
    unfold encs pieceV
    have HK := Lib.hid hK
    have HI := Lib.hid hi
    clear hi hK
    gi_wp2
    have hkn : Kept [] W (W.alloc (.cells #[.int .i64 ((x.1.k : Nat) : Int), .int .i64 ((x.1.a : Nat) : Int), .int .i64 ((x.1.n : Nat) : Int)] 77)) := (Kept.refl [] W).alloc _
    exact HK.out _ _ (keepsFrom_of hkn (by simp)) ⟨CellsKept.of_kept (hkn.none _), fun ⟨ws', h1, h2⟩ => ⟨ws', h1, h2.keep0 hkn⟩⟩ ⟨HI.out.1.keep0 hkn, HI.out.2.1.keep0 hkn, HI.out.2.2.1.keep0 hkn, HI.out.2.2.2.1.keep0 hkn, HI.out.2.2.2.2.trans (hkn.none _)⟩ ⟨W.heap.size, Has.new W _ _, rfl⟩
  case body =>
    rintro l pre x a' W _ _ ⟨hq, h6, h7, hp, hk⟩ ⟨Bx, hX, rfl⟩ hlen
    have hGa := HG.out.all st pre
    have hone := layAll_snoc st ws pre x
    have hGo := hGa.one st x
    generalize layAll st ws pre = wp at *
    have c6 := h6.cell 0
    have c7 := h7.cell 0
    have x0 := hX.cell 0
    have x1 := hX.cell 1
    have x2 := hX.cell 2
    have cp := hp.cell 1
    obtain ⟨hx1, hx2, hx3, hx4⟩ := x.2
    have hk1024 : x.1.k < wp.length := by rw [hGa.1]; omega
    have cq : W.cell? ⟨q, x.1.k, none⟩ = some (.int .u64 (wp.getD x.1.k 0)) := by rw [hq.cell, ints_get wp _ hk1024]
    have fq := hq.free x.1.k
    obtain ⟨nw, hnw⟩ : ∃ nw, nw = (bs.length + 63) / 64 := ⟨_, rfl⟩
    rw [← hnw] at cp
    have hknw : x.1.k < nw := by omega
    simp only [List.getElem?_cons_zero, List.getElem?_cons_succ] at c6 c7 x0 x1 x2 cp
    have hgk := hGa.2 x.1.k
    have hfull := full_cut st x.1.n (by omega)
    rw [Hfs.out] at hfull
    obtain ⟨z, hz⟩ : ∃ z, z = 64 - x.1.n := ⟨_, rfl⟩
    rw [← hz] at hfull
    have hw1 : IntKind.i64.wrap (z : Int) = (z : Int) := by rw [IntWalk.i64_in _ (by omega)]
    have hw2 : 64 - ((x.1.n : Nat) : Int) = (z : Int) := by omega
    obtain ⟨fl, hfl⟩ : ∃ fl, fl = fill st x.1.n := ⟨_, rfl⟩
    have hsh : (fs : Int) / 2 ^ z = (fl : Int) := by rw [cast_two, ← Int.natCast_ediv, hfull, hfl]
    have hfl2 : fl < 2 ^ x.1.n := by rw [hfl]; exact fill_lt st x.1.n
    have hpw : 2 ^ x.1.n ≤ 18446744073709551616 := Nat.pow_le_pow_right (n := 2) (by decide) (show x.1.n ≤ 64 by omega)
    have hLay : ∀ W, Calls Tryd.prog 54 #[.int .u64 (wp.getD x.1.k 0), .int .i64 x.1.a, .int .i64 x.1.n, .int .u64 (fl : Nat)] W fun e w' => e = .returned (.tuple #[.int .u64 ((put (wp.getD x.1.k 0).toNat x.1.a x.1.n fl : Nat) : Int), .int .i64 0]) ∧ ∃ k, w' = W.drewN k := by
      intro W
      have h := lay_any (wp.getD x.1.k 0) (x.1.a : Int) (x.1.n : Int) ((fl : Nat) : Int) hgk.1 hgk.2 (by omega) (by omega) (by omega) (by omega) W
      rw [layV_ok _ _ _ _ hx1 hx2 hfl2] at h
      unfold layE at h
      rw [if_pos ((layB_iff _ _ _).2 ⟨(okB_iff _ _).2 (by omega), by simpa using hfl2⟩)] at h
      exact h
    obtain ⟨y, hy⟩ : ∃ y, y = put (wp.getD x.1.k 0).toNat x.1.a x.1.n fl := ⟨_, rfl⟩
    rw [← hy] at hLay
    have hset : layOne st wp x = wp.set x.1.k (y : Int) := by rw [hy, hfl]; rfl
    rw [hset] at hone hGo
    generalize wp.getD x.1.k 0 = g at *
    have HLay := Lib.hid hLay
    have Hone := Lib.hid hone
    have HGo := Lib.hid hGo
    have HGa := Lib.hid hGa
    have Hq := Lib.hid hq
    have H6 := Lib.hid h6
    have H7 := Lib.hid h7
    have Hp := Lib.hid hp
    have Hk := Lib.hid hk
    have HX := Lib.hid hX
    have Hy := Lib.hid hy
    clear hLay hone hGo hGa hq h6 h7 hp hk hX hset hy hfull hlen hnw hk1024 hz hfl hfl2 hpw
    gi_wp2_with (fail)
    refine Rk.wpIn_store (r := some l) (C := fun w' => ∃ n, w' = W.drewN n) 31 29 _ _ (.tmp 26) 1 (by kernel_rfl) (by kernel_rfl) rfl rfl rfl rfl (by kernel_rfl) ⟨1, rfl⟩ ?_
    simp only [List.take_succ_cons, List.take_zero]
    repeat (quiet_step (exact Calls.quiet_of (HLay.out _)))
    refine wpQuiet_nil ?_
    rintro _ ⟨nq, rfl⟩
    refine ⟨(W.drewN nq).setCell ⟨q, x.1.k, none⟩ (.int .u64 (y : Nat)), by simp [go_sem, cq, fq], ?_⟩
    have hKS : Kept [q] W ((W.drewN nq).setCell ⟨q, x.1.k, none⟩ (.int .u64 (y : Nat))) := ((Kept.refl _ W).drewN nq).setCell _ _ (.inl (by simp))
    have hq' : Has ((W.drewN nq).setCell ⟨q, x.1.k, none⟩ (.int .u64 (y : Nat))) q 81 (ints (wp.set x.1.k (y : Int))) := by
      rw [← ints_set]
      exact (Hq.out.drewN nq).put x.1.k (.int .u64 (y : Nat))
    have n6 : w.heap.size ∉ [q] := by simp; omega
    have n7 : w.heap.size + 1 ∉ [q] := by simp; omega
    have np : p ∉ [q] := by simp; omega
    refine ⟨keepsFrom_of hKS (fun b hb => by obtain rfl := List.mem_singleton.1 hb; exact ⟨_, _, Hq.out⟩), ⟨CellsKept.of_kept hKS, fun _ => ⟨_, HGo.out, hq'⟩⟩, ?_, H6.out.kept hKS n6, H7.out.kept hKS n7, Hp.out.kept hKS np, Hk.out.trans hKS⟩
    rw [Hone.out]
    exact hq'
  case done =>
    rintro D xs W hD ⟨t, hg, ht⟩ ⟨hq, h6, h7, hp, hk⟩ hK
    have hGa := HG.out.all st xs
    have ht2 := hg.le (by omega)
    have hMe := Goes.lay HM.out HG.out hf hin st hg (by omega)
    rw [show t - i = n by omega] at hMe
    have hpD := has_put hp D _ (.deferred none) hK rfl
    have hqD := has_put hq D _ (.deferred none) hK rfl
    have hBv : Hid (Bv (W.putObj D (.deferred none)) p q (laid bs i n st)) := Lib.hid ⟨_, ⟨by rw [laid_length]; exact hpD, hqD, hGa.1, by rw [laid_length]; exact hf, hGa.2⟩, hMe⟩
    have hkD : Kept [q] w (W.putObj D (.deferred none)) := hk.grown (grownBy_putObj' W D (.deferred none)) fun g e => .inr (by injection e with e; have := Hkw.out.more; omega)
    have HkD := Lib.hid hkD
    have HKd := Lib.hid hK
    clear hGa ht2 hMe hpD hqD hkD hK hq h6 h7 hp hk hg ht
    gi_wp2
    refine ⟨by simp, .inl ⟨_, _, rfl, run_takeDeferred HKd.out, ?_⟩⟩
    exact ⟨_, results_tmp rfl _ _ _, rfl, hBv.out, HkD.out⟩
  case stop =>
    rintro D c pre W _ _ h _
    exact h.elim
end Go.Proofs.YtijlaganpnoefaaDoor.Bt
