/-
  The contract of Count.
-/
import Derived.Test.YtijlaganpnoefaaDoorBtDown
import Derived.Test.YtijlaganpnoefaaDoorBtMath
namespace Go.Proofs.YtijlaganpnoefaaDoor.Bt
open Go.RowKit Go.Proofs.YtijlaganpnoefaaDoor.Ar Go.Proofs.YtijlaganpnoefaaDoor.Wd Go.Shelf Go.Sort
set_option linter.unusedVariables false
attribute [local go_sem] Oper.semAt_some

/-- A vector at p, its words at q, with these bits. -/
def Bv (w : World) (p q : Nat) (bs : List Bool) : Prop := ∃ ws, Vec w p q bs.length ws ∧ Means bs ws
theorem Bv.kept {S : List Nat} {w w' : World} {p q : Nat} {bs : List Bool} (h : Bv w p q bs) (k : Kept S w w') (hp : p ∉ S) (hq : q ∉ S) : Bv w' p q bs := let ⟨ws, a, b⟩ := h; ⟨ws, a.kept k hp hq, b⟩
theorem Bv.keep0 {w w' : World} {p q : Nat} {bs : List Bool} (h : Bv w p q bs) (k : Kept [] w w') : Bv w' p q bs := h.kept k (by simp) (by simp)

/-- What all pieces' bits come to. -/
def sumP {nw : Nat} (xs : List (Pcs nw)) : Nat := (xs.map fun x => ones x.1.v 64).sum
theorem sumP_snoc {nw : Nat} (xs : List (Pcs nw)) (x : Pcs nw) : sumP (xs ++ [x]) = sumP xs + ones x.1.v 64 := by simp [sumP]
theorem sumP_le {nw : Nat} (xs : List (Pcs nw)) : sumP xs ≤ 64 * xs.length := by
  induction xs with
  | nil => exact Nat.le_refl _
  | cons x xs ih =>
    have := ones_le x.1.v 64
    have e : sumP (x :: xs) = ones x.1.v 64 + sumP xs := by simp [sumP]
    rw [e, List.length_cons]
    omega
/-- Of all pieces from s on it is the count. -/
theorem Goes.sum {bs : List Bool} {ws : List Int} (h : Means bs ws) {e : Nat} (he : e ≤ bs.length) {nw : Nat} : ∀ {xs : List (Pcs nw)} {s t : Nat}, Goes (· = ws) e s xs t → s ≤ e → sumP xs = cnt (fun j => bit bs (s + j)) (t - s)
  | [], s, t, hg, _ => by
    have h' : t = s := hg
    subst h'
    rw [Nat.sub_self]
    rfl
  | x :: xs, s, t, ⟨h1, ⟨h2, h3, h4, ws', h5, h6⟩, h7⟩, hs => by
    subst h5
    have ih := Goes.sum h he h7 (by omega)
    have ht := Goes.length h7
    have e1 : sumP (x :: xs) = ones x.1.v 64 + sumP xs := by simp [sumP]
    have hn := x.2.1
    rw [e1, ih, h6, h3, h.count s x.1.n (by omega) (by omega), show t - s = x.1.n + (t - (s + x.1.n)) by omega, cnt_add]
    congr 1
    exact cnt_congr _ fun j _ => by rw [Nat.add_assoc]

theorem good_of {w : World} {p q n : Nat} {ws : List Int} (h : Vec w p q n ws) : Good (· = ws) := fun ws' e => by subst e; exact ⟨h.len, h.word⟩

theorem kept_put {w W : World} (h : Kept [] w W) (D : Nat) (o : Obj) (hD : w.heap.size ≤ D) : Kept [] w (W.putObj D o) :=
  h.grown (grownBy_putObj' W D o) fun g e => .inr (by injection e with e; omega)

set_option maxRecDepth 100000 in
set_option maxHeartbeats 4000000 in
theorem count_yes (bs : List Bool) (p q : Nat) (w : World) (hv : Bv w p q bs) (i n : Nat) (hin : i + n ≤ bs.length) :
    Calls Tryd.prog 33 #[.pointer (some ⟨p, 0, none⟩), .int .i64 i, .int .i64 n] w fun e w' => e = .returned (.tuple #[.int .i64 ((cnt (fun j => bit bs (i + j)) n : Nat) : Int), .int .i64 0]) ∧ Kept [] w w' := by
  obtain ⟨ws, hV, hM⟩ := hv
  have hf := hV.few
  have hck := check_ok w hV i n (by omega) (by omega) (by omega) (by omega)
  rw [show errOf (within bs.length i n) = 0 from by rw [(within_iff _ _ _).2 (by omega)]; rfl] at hck
  have Hck := Lib.hid hck
  have HV := Lib.hid hV
  have HM := Lib.hid hM
  clear hck hV hM
  refine (callsIn_wide (n := 5)).1 ?_
  refine callsIn_of_wp_marks Tryd.func33 rfl trivial ?_ rfl
  simp only [Tryd.ntmps33, List.size_toArray, List.length_cons, List.length_nil, Nat.reduceAdd, Nat.reduceSub, Array.replicate_succ, Array.replicate_zero, List.push_toArray, List.append_toArray, List.nil_append, List.cons_append]
  gi_wp2_with (fail)
  refine ⟨trivial, (callsIn_wide.2 Hck.out).mono ?_⟩
  rintro e w' ⟨rfl, rfl⟩
  gi_wp2_with (fail)
  rw [show (i : Int) + (n : Int) = ((i + n : Nat) : Int) by omega]
  refine ⟨trivial, (callsIn_wide.2 (up_ok 0 _ _ _ _)).mono ?_⟩
  rintro e0 w0 ⟨rfl, hw0⟩
  rw [World.size_alloc]
  have hk0 : Kept [] w w0 := by rw [hw0]; exact ((((Kept.refl [] w).alloc _).alloc _).alloc _).alloc _
  have hc0 : Has w0 w.heap.size 3 [.int .i64 0] := by rw [hw0]; exact (((Has.new w _ [.int .i64 0]).alloc _).alloc _).alloc _
  have hR : Reads (· = ws) w0 p q bs.length (w.heap.size + 1 + 1) (w.heap.size + 1 + 2) (w.heap.size + 1) i (i + n) := by
    refine ⟨HV.out.head.keep0 hk0, ⟨ws, rfl, HV.out.row.keep0 hk0⟩, ?_, ?_, ?_⟩
    · rw [hw0]
      have h := (Has.new ((w.alloc (.cells #[.int .i64 0] 3)).alloc (.cells #[.pointer (some ⟨p, 0, none⟩)] 47)) 3 [.int .i64 (i : Int)]).alloc (.cells #[.int .i64 ((i + n : Nat) : Int)] 3)
      rw [World.size_alloc, World.size_alloc] at h
      exact h
    · rw [hw0]
      have h := Has.new (((w.alloc (.cells #[.int .i64 0] 3)).alloc (.cells #[.pointer (some ⟨p, 0, none⟩)] 47)).alloc (.cells #[.int .i64 (i : Int)] 3)) 3 [.int .i64 ((i + n : Nat) : Int)]
      rw [World.size_alloc, World.size_alloc, World.size_alloc] at h
      exact h
    · rw [hw0]
      have h := ((Has.new (w.alloc (.cells #[.int .i64 0] 3)) 47 [.pointer (some ⟨p, 0, none⟩)]).alloc (.cells #[.int .i64 (i : Int)] 3)).alloc (.cells #[.int .i64 ((i + n : Nat) : Int)] 3)
      rw [World.size_alloc] at h
      exact h
  clear hw0
  have hpz : p < w.heap.size := HV.out.head.lt
  have hqz : q < w.heap.size := HV.out.row.lt
  have HR := Lib.hid hR
  have Hc0 := Lib.hid hc0
  have Hk0 := Lib.hid hk0
  clear hR hc0 hk0
  gi_wp2_with (fail)
  refine wpIn_rangeFunc_ownH rfl (by decide) (gf := 48) (lb := #[.pointer (some ⟨w.heap.size + 1 + 1, 0, none⟩), .pointer (some ⟨w.heap.size + 1 + 2, 0, none⟩), .pointer (some ⟨w.heap.size + 1, 0, none⟩)]) rfl trivial (enters_of Tryd.func48 (by kernel_rfl) rfl)
    (up_stops 4 (by decide) (· = ws) (good_of HV.out) [w.heap.size] p q bs.length (w.heap.size + 1 + 1) (w.heap.size + 1 + 2) (w.heap.size + 1) i (i + n) hf hin (by simp; omega) w0 (by simp; exact Hc0.out.lt) HR.out)
    (fun h k => h.trans k) (fun W l o o' _ h hc _ => Keeps.put W l o o' h hc) (Below.refl _ _) (fun _ => rfl)
    (fun pre W => Has W w.heap.size 3 [.int .i64 ((sumP pre : Nat) : Int)] ∧ Kept [] w W)
    (fun _ _ _ => False)
    (OwnFrom.and own_has (own_kept Hk0.out.more))
    (fun _ _ _ _ _ hs _ _ => hs)
    ⟨Hc0.out, Hk0.out⟩
    (fun x a' _ => a' = { tmps := #[.pointer (some ⟨p, 0, none⟩), .int .i64 i, .int .i64 n, undef, undef, undef, .int .i64 0, .int .i64 0, .int .i64 0, .pointer (some ⟨w.heap.size, 0, none⟩), undef, .int .u64 ((x.1.v : Nat) : Int), .pointer (some ⟨p, 0, none⟩), .int .i64 i, .int .i64 n, .int .i64 0, .int .i64 0, .bool false, undef, .pointer (some ⟨p, 0, none⟩), .int .i64 i, .int .i64 i, .int .i64 n, .int .i64 ((i : Int) + (n : Int)), .func (.func 48) #[] #[.pointer (some ⟨w.heap.size + 1 + 1, 0, none⟩), .pointer (some ⟨w.heap.size + 1 + 2, 0, none⟩), .pointer (some ⟨w.heap.size + 1, 0, none⟩)], pieceV x.1.k x.1.a x.1.n, .int .u64 ((x.1.v : Nat) : Int), undef, undef, undef, undef, undef], defers := [] })
    (fun _ _ _ _ _ _ hs _ _ => hs)
    ?assign ?body ?done ?stop
  case assign =>
    rintro l pre x W K hi hK
    unfold encs
    have HK := Lib.hid hK
    have HI := Lib.hid hi
    clear hi hK
    gi_wp2
    exact HK.out _ _ (KeepsFrom.refl _ _) (Keeps.of (CellsKept.of_kept (Kept.refl _ W)) (by simp; omega)) HI.out rfl
  case body =>
    rintro l pre x a' W _ _ ⟨hc, hk⟩ rfl hlen
    have hs := sumP_le pre
    have hsn := sumP_snoc pre x
    have ho := ones_le x.1.v 64
    have hx := x.2.2.2.2
    have cc := hc.cell 0
    have cf := hc.free 0
    simp at cc
    have hO : ∀ W, Calls Tryd.prog 41 #[.int .u64 ((x.1.v : Nat) : Int)] W fun e w' => e = .returned (.int .i64 ((ones x.1.v 64 : Nat) : Int)) ∧ ∃ k, w' = W.drewN k := fun W => by
      have := ones_any ((x.1.v : Nat) : Int) (by omega) (by omega) W
      unfold onesV at this
      rw [Int.toNat_natCast] at this
      exact this
    generalize ones x.1.v 64 = o at *
    obtain ⟨sm, hsm⟩ : ∃ sm, sm = sumP pre := ⟨_, rfl⟩
    rw [← hsm] at hs hsn cc hc
    have HO := Lib.hid hO
    have Hc := Lib.hid hc
    have Hk := Lib.hid hk
    have Hsn := Lib.hid hsn
    have hsb : sm ≤ 64 * 65536 := by omega
    clear hO hc hk hsn hsm hs hlen
    gi_wp2
    refine Rk.wpIn_head (r := some l) (C := fun w' => ∃ n, w' = W.drewN n) 4 (by kernel_rfl) (by kernel_rfl) ⟨1, rfl⟩ ?_
    simp only [List.take_succ_cons, List.take_zero, List.drop_succ_cons, List.drop_zero]
    repeat (quiet_step (exact Calls.quiet_of (HO.out _)))
    refine wpQuiet_nil ?_
    rintro _ ⟨nq, rfl⟩
    rw [← Rk.fence_round]
    gi_wp2
    have hKS : Kept [w.heap.size] W ((W.drewN nq).setCell ⟨w.heap.size, 0, none⟩ (.int .i64 ((sm : Int) + (o : Int)))) := ((Kept.refl _ W).drewN nq).setCell _ _ (.inl (by simp))
    refine ⟨keepsFrom_of hKS (fun b hb => by obtain rfl := List.mem_singleton.1 hb; exact ⟨_, _, Hc.out⟩), Keeps.of (CellsKept.of_kept hKS) (by simp; omega), ?_, (Hk.out.drewN nq).setCell _ _ (.inr (Nat.le_refl _))⟩
    have h := (Hc.out.drewN nq).put 0 (.int .i64 ((sm : Int) + (o : Int)))
    rw [Hsn.out, Int.natCast_add]
    exact h
  case done =>
    rintro D xs W hD ⟨t, hg, ht⟩ ⟨hc, hk⟩ hK
    have cc := hc.cell 0
    simp at cc
    have ht' := hg.le (by omega)
    have hsum := hg.sum HM.out hin (by omega)
    rw [show t - i = n by omega] at hsum
    have Hs := Lib.hid hsum
    have HKd := Lib.hid hK
    have Hk := Lib.hid hk
    clear hsum hK hk
    gi_wp2
    refine ⟨by simp, .inl ⟨_, _, rfl, run_takeDeferred HKd.out, ?_⟩⟩
    exact ⟨_, results_tmp2 rfl _ _ _, (by rw [← Hs.out]; rfl), kept_put Hk.out D _ (Nat.le_trans Hk0.out.more hD)⟩
  case stop =>
    rintro D c pre W _ _ h _
    exact h.elim
theorem count_no (bs : List Bool) (p q : Nat) (w : World) (hv : Bv w p q bs) (i n : Int) (i1 : -9223372036854775808 ≤ i) (i2 : i ≤ 9223372036854775807) (n1 : -9223372036854775808 ≤ n) (n2 : n ≤ 9223372036854775807) (hin : within bs.length i n = false) :
    Calls Tryd.prog 33 #[.pointer (some ⟨p, 0, none⟩), .int .i64 i, .int .i64 n] w fun e w' => e = .returned (.tuple #[.int .i64 0, .int .i64 2]) ∧ Kept [] w w' := by
  obtain ⟨ws, hV, hM⟩ := hv
  have hck := check_ok w hV i n i1 i2 n1 n2
  rw [hin] at hck
  have Hck : Hid (Calls Tryd.prog 39 #[.pointer (some ⟨p, 0, none⟩), .int .i64 i, .int .i64 n] w fun e w' => e = .returned (.int .i64 2) ∧ w = w') := Lib.hid hck
  clear hck hV hM hin
  go_enter Tryd.func33, Tryd.ntmps33
  go_wp2_with fail
  refine (Hck.out).mono ?_
  rintro e w' ⟨rfl, rfl⟩
  go_wp2_with fail
  go_ret2
  exact ⟨rfl, Kept.refl [] w⟩
theorem count_nil (w : World) (i n : Int) :
    Calls Tryd.prog 33 #[.pointer none, .int .i64 i, .int .i64 n] w fun e w' => e = .returned (.tuple #[.int .i64 0, .int .i64 1]) ∧ Kept [] w w' := by
  have Hck := Lib.hid (check_nil i n w)
  go_enter Tryd.func33, Tryd.ntmps33
  go_wp2_with fail
  refine (Hck.out).mono ?_
  rintro e w' ⟨rfl, rfl⟩
  go_wp2_with fail
  go_ret2
  exact ⟨rfl, Kept.refl [] w⟩
/-- What Count answers. -/
def cntI (bs : List Bool) (i n : Int) : Int := if within bs.length i n then ((cnt (fun j => bit bs (i.toNat + j)) n.toNat : Nat) : Int) else 0
theorem count_ok (bs : List Bool) (p q : Nat) (w : World) (hv : Bv w p q bs) (i n : Int) (i1 : -9223372036854775808 ≤ i) (i2 : i ≤ 9223372036854775807) (n1 : -9223372036854775808 ≤ n) (n2 : n ≤ 9223372036854775807) :
    Calls Tryd.prog 33 #[.pointer (some ⟨p, 0, none⟩), .int .i64 i, .int .i64 n] w fun e w' => e = .returned (.tuple #[.int .i64 (cntI bs i n), .int .i64 (errOf (within bs.length i n))]) ∧ Kept [] w w' := by
  unfold cntI
  cases h : within bs.length i n with
  | true =>
    obtain ⟨a, b, c⟩ := (within_iff _ _ _).1 h
    have := count_yes bs p q w hv i.toNat n.toNat (by omega)
    rw [Int.toNat_of_nonneg a, Int.toNat_of_nonneg b] at this
    exact this
  | false => exact count_no bs p q w hv i n i1 i2 n1 n2 h
end Go.Proofs.YtijlaganpnoefaaDoor.Bt
