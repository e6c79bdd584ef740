/-
  Several texts in one: HdOf, HdAlive, HdOfLaw, HdFitLaw.
-/
import Derived.Test.YtfdombfdgpclcaaGreatDoorGH
import Derived.Test.YtfdombfdgpclcaaGreatDoorGT
/-
  The contracts of Of and Fits, the program's and the document's.
-/
namespace Go.Proofs.YtfdombfdgpclcaaGreatDoor.Hd
open Go.RowKit Go.Proofs.YtfdombfdgpclcaaGreatDoor.Ar
set_option linter.unusedVariables false

/-- The header of an object: what the size and its error say. -/
def ofH (i n z er : Int) : Hd := if er = 0 then ⟨1, i, n, z⟩ else Hd.zero
/-- Does it match, if that is what Of answers? -/
def fitE (o : Hd) (oe : Int) (h : Hd) : Int := if ¬ h.can then 2 else if h.tg ≠ 1 then 0 else if oe ≠ 0 ∨ o ≠ h then 8 else 0
section
variable {w : World}
set_option maxRecDepth 100000 in
set_option maxHeartbeats 1000000 in
theorem of_ok (T : Value) (i n z er : Int) (HS : ∀ y, Kept [] w y → Calls Tryz.prog 10 #[T, .int .i64 i, .int .i64 n] y fun e w' => e = .returned (.tuple #[.int .i64 z, .int .i64 er]) ∧ Kept [] y w') :
    Calls Tryz.prog 25 #[T, .int .i64 i, .int .i64 n] w fun e w' => e = .returned (.tuple #[(ofH i n z er).val, .int .i64 er]) ∧ Kept [] w w' := by
  have hb := Hd.new w Hd.zero
  have k0 : Kept [] w (w.alloc (.cells #[.int .u8 Hd.zero.tg, .int .i64 Hd.zero.ty, .int .i64 Hd.zero.ln, .int .i64 Hd.zero.sz] 43)) := (Kept.refl [] w).alloc _
  unfold Hd.zero at hb k0
  simp only at hb k0
  have HB := Lib.hid hb
  have K0 := Lib.hid k0
  have HSS := Lib.hid HS
  clear hb k0 HS
  by_cases c : er = 0
  · subst c
    unfold ofH
    simp only [if_true]
    unfold Hd.val
    go_enter Tryz.func25, Tryz.ntmps25
    go_wp2_with fail
    refine (HSS.out _ K0.out).mono ?_
    rintro e x2 ⟨rfl, k2⟩
    have K2 := Lib.hid (K0.out.trans k2)
    have r2 := HB.out.keep0 k2
    clear k2 HSS K0 HB
    obtain ⟨f0, f1, f2, f3⟩ := free4 r2
    obtain ⟨d0, d1, d2, d3⟩ := cells4 r2
    have R2 := Lib.hid r2
    clear r2
    go_wp2_with fail
    exact ret_hd rfl rfl R2.out K2.out (Nat.le_refl _) rfl rfl fun X hX => ⟨rfl, hX⟩
  · unfold ofH
    rw [if_neg c]
    unfold Hd.val Hd.zero
    go_enter Tryz.func25, Tryz.ntmps25
    go_wp2_with fail
    refine (HSS.out _ K0.out).mono ?_
    rintro e x2 ⟨rfl, k2⟩
    have K2 := Lib.hid (K0.out.trans k2)
    have r2 := HB.out.keep0 k2
    clear k2 HSS K0 HB
    obtain ⟨f0, f1, f2, f3⟩ := free4 r2
    obtain ⟨d0, d1, d2, d3⟩ := cells4 r2
    have R2 := Lib.hid r2
    clear r2
    go_wp2_with fail
    exact ret_hd rfl rfl R2.out K2.out (Nat.le_refl _) rfl rfl fun X hX => ⟨rfl, hX⟩
set_option maxRecDepth 100000 in
set_option maxHeartbeats 1000000 in
theorem fits_ok (h : Fields w) (T : Value) (x : Hd) (ok : x.ok) (o : Hd) (oe : Int) (HO : ∀ y, Kept [] w y → Calls Tryz.prog 25 #[T, .int .i64 x.ty, .int .i64 x.ln] y fun e w' => e = .returned (.tuple #[o.val, .int .i64 oe]) ∧ Kept [] y w') :
    Calls Tryz.prog 67 #[T, x.val] w fun e w' => e = .returned (.int .i64 (fitE o oe x)) ∧ Kept [] w w' := by
  have hb := Hd.new w x
  have k0 : Kept [] w (w.alloc (.cells #[.int .u8 x.tg, .int .i64 x.ty, .int .i64 x.ln, .int .i64 x.sz] 43)) := (Kept.refl [] w).alloc _
  have HC := Lib.hid (fun y (k : Kept [] w y) => check_ok (h.keep0 k) x ok)
  have HOO := Lib.hid HO
  have HN : Hid (∀ y : World, Has (y.alloc (.cells #[.int .u8 o.tg, .int .i64 o.ty, .int .i64 o.ln, .int .i64 o.sz] 43)) y.heap.size 43 [.int .u8 o.tg, .int .i64 o.ty, .int .i64 o.ln, .int .i64 o.sz]) := Lib.hid fun y => Hd.new y _
  have hne := run_other
  have hng := no_guard
  have hq : eqB o.tg o.ty o.ln o.sz x.tg x.ty x.ln x.sz = decide (o = x) := eqB_dec o x
  have hg0 := ok.g0
  have hg1 := ok.g1
  clear HO h ok
  by_cases c : x.can
  · have hf : fitE o oe x = if x.tg ≠ 1 then 0 else if oe ≠ 0 ∨ o ≠ x then 8 else 0 := by unfold fitE; rw [if_neg (fun h => h c)]
    rw [hf]
    rw [errH_yes c] at HC
    clear hf c
    by_cases h1 : x.tg = 1
    · rw [if_neg (fun h => h h1)]
      by_cases h2 : oe = 0
      · subst h2
        by_cases h3 : o = x
        · rw [if_neg (by simp [h3])]
          rw [decide_eq_true h3] at hq
          clear h3
          unfold Hd.val at *
          generalize x.tg = g at *
          generalize x.ty = t at *
          generalize x.ln = n at *
          subst h1
          generalize x.sz = s at *
          have HB := Lib.hid hb
          have K0 := Lib.hid k0
          clear hb k0
          go_enter Tryz.func67, Tryz.ntmps67
          go_wp2_with fail
          refine (HC.out _ K0.out).mono ?_
          rintro e x1 ⟨rfl, k1⟩
          have b1 := HB.out.keep0 k1
          obtain ⟨c0, c1, c2, c3⟩ := cells4 b1
          have K1 := Lib.hid (K0.out.trans k1)
          have HB1 := Lib.hid b1
          clear k1 b1 HC K0 HB
          go_wp2_with fail
          refine (HOO.out _ K1.out).mono ?_
          rintro e x2 ⟨rfl, k2⟩
          have K2 := Lib.hid (K1.out.trans k2)
          have b2 := HB1.out.keep0 k2
          have n2 := HN.out x2
          clear k2 HOO K1 HB1 HN c0 c1 c2 c3
          obtain ⟨c0, c1, c2, c3⟩ := cells4 (b2.alloc (.cells #[.int .u8 o.tg, .int .i64 o.ty, .int .i64 o.ln, .int .i64 o.sz] 43))
          obtain ⟨d0, d1, d2, d3⟩ := cells4 n2
          clear b2 n2
          go_wp2_with fail
          go_ret
          exact ⟨rfl, K2.out.alloc _⟩
        · rw [if_pos (.inr h3)]
          rw [decide_eq_false h3] at hq
          clear h3
          unfold Hd.val at *
          generalize x.tg = g at *
          generalize x.ty = t at *
          generalize x.ln = n at *
          subst h1
          generalize x.sz = s at *
          have HB := Lib.hid hb
          have K0 := Lib.hid k0
          clear hb k0
          go_enter Tryz.func67, Tryz.ntmps67
          go_wp2_with fail
          refine (HC.out _ K0.out).mono ?_
          rintro e x1 ⟨rfl, k1⟩
          have b1 := HB.out.keep0 k1
          obtain ⟨c0, c1, c2, c3⟩ := cells4 b1
          have K1 := Lib.hid (K0.out.trans k1)
          have HB1 := Lib.hid b1
          clear k1 b1 HC K0 HB
          go_wp2_with fail
          refine (HOO.out _ K1.out).mono ?_
          rintro e x2 ⟨rfl, k2⟩
          have K2 := Lib.hid (K1.out.trans k2)
          have b2 := HB1.out.keep0 k2
          have n2 := HN.out x2
          clear k2 HOO K1 HB1 HN c0 c1 c2 c3
          obtain ⟨c0, c1, c2, c3⟩ := cells4 (b2.alloc (.cells #[.int .u8 o.tg, .int .i64 o.ty, .int .i64 o.ln, .int .i64 o.sz] 43))
          obtain ⟨d0, d1, d2, d3⟩ := cells4 n2
          clear b2 n2
          go_wp2_with fail
          go_ret
          exact ⟨rfl, K2.out.alloc _⟩
      · rw [if_pos (.inl h2)]
        clear hq
        unfold Hd.val at *
        generalize x.tg = g at *
        generalize x.ty = t at *
        generalize x.ln = n at *
        subst h1
        generalize x.sz = s at *
        have HB := Lib.hid hb
        have K0 := Lib.hid k0
        clear hb k0
        go_enter Tryz.func67, Tryz.ntmps67
        go_wp2_with fail
        refine (HC.out _ K0.out).mono ?_
        rintro e x1 ⟨rfl, k1⟩
        have b1 := HB.out.keep0 k1
        obtain ⟨c0, c1, c2, c3⟩ := cells4 b1
        have K1 := Lib.hid (K0.out.trans k1)
        have HB1 := Lib.hid b1
        clear k1 b1 HC K0 HB
        go_wp2_with fail
        refine (HOO.out _ K1.out).mono ?_
        rintro e x2 ⟨rfl, k2⟩
        have K2 := Lib.hid (K1.out.trans k2)
        have b2 := HB1.out.keep0 k2
        have n2 := HN.out x2
        clear k2 HOO K1 HB1 HN c0 c1 c2 c3
        obtain ⟨c0, c1, c2, c3⟩ := cells4 (b2.alloc (.cells #[.int .u8 o.tg, .int .i64 o.ty, .int .i64 o.ln, .int .i64 o.sz] 43))
        obtain ⟨d0, d1, d2, d3⟩ := cells4 n2
        clear b2 n2
        go_wp2_with fail
        go_ret
        exact ⟨rfl, K2.out.alloc _⟩
    · rw [if_pos h1]
      clear hq HOO HN
      unfold Hd.val at *
      generalize x.tg = g at *
      generalize x.ty = t at *
      generalize x.ln = n at *
      generalize x.sz = s at *
      have HB := Lib.hid hb
      have K0 := Lib.hid k0
      clear hb k0
      go_enter Tryz.func67, Tryz.ntmps67
      go_wp2_with fail
      refine (HC.out _ K0.out).mono ?_
      rintro e x1 ⟨rfl, k1⟩
      have b1 := HB.out.keep0 k1
      obtain ⟨c0, c1, c2, c3⟩ := cells4 b1
      have K1 := Lib.hid (K0.out.trans k1)
      have HB1 := Lib.hid b1
      clear k1 b1 HC K0 HB
      go_wp2_with fail
      go_ret
      exact ⟨rfl, K1.out⟩
  · have hf : fitE o oe x = 2 := by unfold fitE; rw [if_pos c]
    rw [hf]
    rw [errH_no c] at HC
    clear hf c hq HOO HN
    unfold Hd.val at *
    generalize x.tg = g at *
    generalize x.ty = t at *
    generalize x.ln = n at *
    generalize x.sz = s at *
    have HB := Lib.hid hb
    have K0 := Lib.hid k0
    clear hb k0
    go_enter Tryz.func67, Tryz.ntmps67
    go_wp2_with fail
    refine (HC.out _ K0.out).mono ?_
    rintro e x1 ⟨rfl, k1⟩
    have b1 := HB.out.keep0 k1
    obtain ⟨c0, c1, c2, c3⟩ := cells4 b1
    have K1 := Lib.hid (K0.out.trans k1)
    have HB1 := Lib.hid b1
    clear k1 b1 HC K0 HB
    go_wp2_with fail
    go_ret
    exact ⟨rfl, K1.out⟩
end
end Go.Proofs.YtfdombfdgpclcaaGreatDoor.Hd

/-
  The chapter's examples: alive.
-/
namespace Go.Proofs.YtfdombfdgpclcaaGreatDoor.Hd
open Go.RowKit Go.Proofs.YtfdombfdgpclcaaGreatDoor.Ar
set_option linter.unusedVariables false

section
variable {w : World}
theorem enc_num (h : Fields w) (g t n s u er : Int) (ok : (Hd.mk g t n s).ok) (e1 : encW ⟨g, t, n, s⟩ = u) (e2 : errH ⟨g, t, n, s⟩ = er) : Calls Tryz.prog 54 #[.agg #[.int .u8 g, .int .i64 t, .int .i64 n, .int .i64 s]] w fun e w' => e = .returned (.tuple #[.int .u64 u, .int .i64 er]) ∧ Kept [] w w' := by
  subst e1; subst e2
  exact encode_ok h ⟨g, t, n, s⟩ ok
theorem dec_zero (h : Fields w) : Calls Tryz.prog 77 #[.int .u64 0] w fun e w' => e = .returned (.tuple #[.agg #[.int .u8 0, .int .i64 0, .int .i64 0, .int .i64 0], .int .i64 7]) ∧ Kept [] w w' := by
  have e : isHead 0 = false := by decide
  have hd := decode_ok h 0 (by decide) (by decide)
  rw [(dec_no e).1, (dec_no e).2] at hd
  exact hd
end
end Go.Proofs.YtfdombfdgpclcaaGreatDoor.Hd

/-
  What the laws on tables' headers hand on: contracts of Of and Fits, of a table, of none, of the document's row.
-/
namespace Go.Proofs.YtfdombfdgpclcaaGreatDoor.Hd
open Go.RowKit Go.Proofs.YtfdombfdgpclcaaGreatDoor.Ar
set_option linter.unusedVariables false
open Go.Proofs.YtfdombfdgpclcaaGreatDoor.Tb (Ty Tab Seen Made NewPost RowPost newF newF_len addE sizeT sizeE)

theorem newF_fit {l : List Ty} (acc : List Ty) (h : (newF acc l).2 = 0) : (∀ x ∈ l, x.fit) := by
  induction l generalizing acc with
  | nil => exact fun x hx => by cases hx
  | cons x l ih =>
    by_cases he : addE acc x = 0
    · have e : newF acc (x :: l) = newF (acc ++ [x]) l := if_pos he
      rw [e] at h
      have h1 := ih _ h
      have hx : x.fit := by
        unfold addE at he
        split at he
        · cases he
        · rename_i hx
          exact Decidable.not_not.1 hx
      intro y hy
      rcases List.mem_cons.1 hy with rfl | hy
      · exact hx
      · exact h1 y hy
    · have e : newF acc (x :: l) = ([], addE acc x) := if_neg he
      rw [e] at h
      exact absurd h he
/-- An error of Of's is like any other to Fits. -/
theorem fit_err (o : Hd) (oe : Int) (x : Hd) (h : oe ≠ 0) : fitE o oe x = fitE Hd.zero 1 x := by
  unfold fitE
  have h1 : (oe ≠ 0 ∨ o ≠ x) := .inl h
  have h2 : ((1 : Int) ≠ 0 ∨ Hd.zero ≠ x) := .inl (by decide)
  rw [if_pos h1, if_pos h2]
/-- The header of an object of a list's types. -/
def ofL (l : List Ty) (i n : Int) : Hd := ofH i n (sizeT l i n) (sizeE l i n)
def fitL (l : List Ty) (x : Hd) : Int := fitE (ofL l x.ty x.ln) (sizeE l x.ty x.ln) x
theorem sizeE_nil (i n : Int) : sizeE [] i n = 3 := by
  unfold sizeE Tb.hasT
  have : ¬ ((1 : Int) ≤ i ∧ i ≤ (([] : List Ty).length : Int)) := by simp; omega
  rw [decide_eq_false this]
  rfl
section
variable {w : World} {A : Option Addr} {c p : Nat} {l : List Ty}
theorem of_tab (h : Tab w p A c l) (i n : Int) (hi0 : -9223372036854775808 ≤ i) (hi1 : i ≤ 9223372036854775807) :
    Calls Tryz.prog 25 #[.pointer (some ⟨p, 0, none⟩), .int .i64 i, .int .i64 n] w fun e w' => e = .returned (.tuple #[(ofL l i n).val, .int .i64 (sizeE l i n)]) ∧ Kept [] w w' :=
  of_ok _ i n (sizeT l i n) (sizeE l i n) fun y k => Tb.size_ok (h.keep0 k) i n hi0 hi1
theorem of_nil (i n : Int) : Calls Tryz.prog 25 #[.pointer none, .int .i64 i, .int .i64 n] w fun e w' => e = .returned (.tuple #[Hd.zero.val, .int .i64 1]) ∧ Kept [] w w' :=
  of_ok _ i n 0 1 fun y k => Tb.size_nil y i n
theorem fits_tab (h : Fields w) (hT : Tab w p A c l) (x : Hd) (ok : x.ok) :
    Calls Tryz.prog 67 #[.pointer (some ⟨p, 0, none⟩), x.val] w fun e w' => e = .returned (.int .i64 (fitL l x)) ∧ Kept [] w w' :=
  fits_ok h _ x ok _ _ fun y k => of_tab (hT.keep0 k) x.ty x.ln ok.t0 ok.t1
theorem fits_nil (h : Fields w) (x : Hd) (ok : x.ok) :
    Calls Tryz.prog 67 #[.pointer none, x.val] w fun e w' => e = .returned (.int .i64 (fitE Hd.zero 1 x)) ∧ Kept [] w w' :=
  fits_ok h _ x ok _ _ fun y k => of_nil x.ty x.ln
end
end Go.Proofs.YtfdombfdgpclcaaGreatDoor.Hd

/-
  What the law HeadFits says, in numbers.
-/
namespace Go.Proofs.YtfdombfdgpclcaaGreatDoor.Hd
open Go.RowKit Go.Proofs.YtfdombfdgpclcaaGreatDoor.Ar
set_option linter.unusedVariables false
open Go.Proofs.YtfdombfdgpclcaaGreatDoor.Tb (Ty Tab Seen Made NewPost RowPost newF newF_len addE sizeT sizeE hasT getT)

/-- An object that is possible: its header is valid, and what it is. -/
theorem of_facts {l : List Ty} {i n : Int} (h : sizeE l i n = 0) (hl : l.length ≤ 64) : ∃ sz, ofL l i n = ⟨1, i, n, sz⟩ ∧ 1 ≤ sz ∧ sz ≤ 40000 ∧ 1 ≤ i ∧ i ≤ 64 ∧ 0 ≤ n ∧ n ≤ 4096 := by
  unfold ofL ofH
  rw [if_pos h]
  unfold sizeT
  unfold sizeE at h
  have hh : hasT l i = true := by
    cases hx : hasT l i with
    | true => rfl
    | false => rw [hx, if_neg (by decide)] at h; exact absurd h (by decide)
  rw [hh] at h ⊢
  simp only [if_true] at h ⊢
  have hi := of_decide_eq_true hh
  refine ⟨_, rfl, ?_⟩
  obtain ⟨b0, b1⟩ := Kd.slots_bound h
  have hn : 0 ≤ n ∧ n ≤ 4096 := by
    unfold Kd.err at h
    split at h
    · cases h
    · split at h
      · cases h
      · omega
  unfold Kd.sizeR
  rw [if_pos h]
  omega
theorem fit_of {l : List Ty} {i n sz : Int} (ho : ofL l i n = ⟨1, i, n, sz⟩) (he : sizeE l i n = 0) (c : (Hd.mk 1 i n sz).can) : fitL l ⟨1, i, n, sz⟩ = 0 := by
  unfold fitL fitE
  simp only
  rw [if_neg (fun h => h c), if_neg (by simp), ho, he, if_neg (by simp)]
theorem fit_more {l : List Ty} {i n sz k : Int} (ho : ofL l i n = ⟨1, i, n, sz⟩) (hk : k ≠ 0) (c : (Hd.mk 1 i n (sz + k)).can) : fitL l ⟨1, i, n, sz + k⟩ = 8 := by
  unfold fitL fitE
  simp only
  rw [if_neg (fun h => h c), if_neg (by simp), ho, if_pos]
  refine .inr fun e => ?_
  have : sz = sz + k := by injection e
  omega
theorem fit_none {l : List Ty} {j n sz : Int} (hj : (l.length : Int) < j) (c : (Hd.mk 1 j n sz).can) : fitL l ⟨1, j, n, sz⟩ = 8 := by
  unfold fitL fitE
  simp only
  rw [if_neg (fun h => h c), if_neg (by simp), if_pos]
  refine .inl ?_
  unfold sizeE hasT
  rw [decide_eq_false (by omega), if_neg (by decide)]
  decide
theorem fit_gap (o : Hd) (oe k : Int) (c : (Hd.mk 2 0 0 k).can) : fitE o oe ⟨2, 0, 0, k⟩ = 0 := by
  unfold fitE
  rw [if_neg (fun h => h c), if_pos (by simp)]
theorem can_obj {i n z : Int} (h0 : 1 ≤ i) (h1 : i ≤ 4095) (h2 : 0 ≤ n) (h3 : n ≤ 16777215) (h4 : 1 ≤ z) (h5 : z ≤ 16777215) : (Hd.mk 1 i n z).can := ⟨⟨h4, h5, h2, h3⟩, .inl ⟨rfl, h0, h1⟩⟩
theorem can_gap {z : Int} (h4 : 1 ≤ z) (h5 : z ≤ 16777215) : (Hd.mk 2 0 0 z).can := ⟨⟨h4, h5, (by decide : (0 : Int) ≤ 0), (by decide : (0 : Int) ≤ 16777215)⟩, .inr ⟨.inl rfl, rfl, rfl⟩⟩
end Go.Proofs.YtfdombfdgpclcaaGreatDoor.Hd
