/-
  The contract of Of.
-/
import Derived.Test.YtpnjblledbihcaaDoorShView
namespace Go.Proofs.YtpnjblledbihcaaDoor.Sh
open Go.RowKit Go.Proofs.YtpnjblledbihcaaDoor.Ar
open Go.Proofs.YtpnjblledbihcaaDoor.Hd (Hd Fields decE decH isHead headI head_ok fitL ofL fits_tab cells4 free4)
open Go.Proofs.YtpnjblledbihcaaDoor.Tb (Ty Tab getT hasT sizeE sizeT errT get_ok cells3)
set_option linter.unusedVariables false

theorem getT_ok {w : World} {p : Nat} {A : Option Addr} {c : Nat} {l : List Ty} (h : Tab w p A c l) (i : Int) : (getT l i).k < 256 ∧ (getT l i).ms < 18446744073709551616 := by
  unfold getT
  split
  · rw [List.getD_eq_getElem?_getD]
    cases hx : l[(i - 1).toNat]? with
    | none => exact ⟨by decide, by decide⟩
    | some v => exact (h.all v (List.mem_of_getElem? hx)).1
  · exact ⟨by decide, by decide⟩
def OfPost (w : World) (p : Nat) (ws : List Int) (l : List Ty) (g : Int) (e : Ending) (w' : World) : Prop :=
  Kept [] w w' ∧ ((ofE ws l g ≠ 0 ∧ e = .returned (.tuple #[.pointer none, .int .i64 (ofE ws l g)])) ∨
    (ofE ws l g = 0 ∧ ∃ v, e = .returned (.tuple #[.pointer (some ⟨v, 0, none⟩), .int .i64 0]) ∧ w.heap.size ≤ v ∧ View w' v p g (hdH ws g) (ofT ws l g) (ofS ws l g)))
section
variable {w : World}
set_option maxRecDepth 100000 in
set_option maxHeartbeats 1000000 in
/-- No header there. -/
theorem of_err (P T : Value) (g : Int) (x : Hd) (er : Int) (he : er ≠ 0) (hp : P = .pointer none ∨ ∃ p, P = .pointer (some ⟨p, 0, none⟩))
    (HH : ∀ y, Kept [] w y → Calls Tryd.prog 14 #[P, .int .i64 g] y fun e w' => e = .returned (.tuple #[x.val, .int .i64 er]) ∧ Kept [] y w') :
    Calls Tryd.prog 15 #[P, T, .int .i64 g] w fun e w' => e = .returned (.tuple #[.pointer none, .int .i64 er]) ∧ Kept [] w w' := by
  have H := Lib.hid HH
  have hb : (er != 0) = true := by rw [bne_iff_ne]; exact he
  unfold Hd.val at H
  clear HH he hp
  go_enter Tryd.func15, Tryd.ntmps15
  go_wp2_with fail
  refine (H.out _ (Kept.refl [] w)).mono ?_
  rintro e x1 ⟨rfl, k1⟩
  have K1 := Lib.hid k1
  clear k1 H
  go_wp2_with fail
  go_ret2
  exact ⟨rfl, K1.out.alloc _⟩
theorem of_nil (T : Value) (g : Int) : Calls Tryd.prog 15 #[.pointer none, T, .int .i64 g] w fun e w' => e = .returned (.tuple #[.pointer none, .int .i64 1]) ∧ Kept [] w w' :=
  of_err (.pointer none) T g Hd.Hd.zero 1 (by decide) (.inl rfl) fun y k => head_nil g
set_option maxRecDepth 100000 in
set_option maxHeartbeats 2000000 in
theorem of_ok (hF : Fields w) {p q : Nat} {ws : List Int} {n : Int} (h : Arena w p q ws n) (hW : Wds ws) {tp : Nat} {A : Option Addr} {c : Nat} {l : List Ty} (hT : Tab w tp A c l) (g : Int) (g0 : -9223372036854775808 ≤ g) (g1 : g ≤ 9223372036854775807) :
    Calls Tryd.prog 15 #[.pointer (some ⟨p, 0, none⟩), .pointer (some ⟨tp, 0, none⟩), .int .i64 g] w (OfPost w p ws l g) := by
  have HH := Lib.hid (fun y (k : Kept [] w y) => head_any (hF.keep0 k) (h.keep0 k) hW g g0 g1)
  by_cases he : hdE ws g = 0
  · have ok := hdH_ok (g := g) hW
    have HI := Lib.hid (fun y (k : Kept [] w y) => within_ok (h.keep0 k) g (hdH ws g).sz g1 ok.s0 ok.s1)
    have HFt := Lib.hid (fun y (k : Kept [] w y) => fits_tab (hF.keep0 k) (hT.keep0 k) (hdH ws g) ok)
    have HG := Lib.hid (fun y (k : Kept [] w y) => get_ok (hT.keep0 k) (hdH ws g).ty ok.t0 ok.t1)
    have hto := getT_ok hT (hdH ws g).ty
    have HS := Lib.hid (fun (y : World) => Kd.slots_ok (ofT ws l g).k (ofT ws l g).wd (ofT ws l g).ms (hdH ws g).ln hto.1 hto.2 y)
    have hofE : ofE ws l g = if (hdH ws g).tg ≠ 1 ∨ fitL l (hdH ws g) ≠ 0 ∨ inG ws.length g (hdH ws g).sz = false then 8 else 0 := by unfold ofE; rw [if_neg (by simpa using he)]
    have hg : ofT ws l g = getT l (hdH ws g).ty := rfl
    rw [← hg] at HG
    rw [he] at HH
    unfold OfPost ofS
    rw [hofE]
    clear hofE hto hg he hF h hW hT ok
    generalize hasT l (hdH ws g).ty = hh at *
    generalize hdH ws g = x at *
    generalize ofT ws l g = t at *
    generalize fitL l x = fe at *
    generalize inG ws.length g x.sz = ib at *
    generalize Kd.slotsR t.k t.wd t.ms x.ln = sl at *
    generalize Kd.err t.k t.wd t.ms x.ln = se at *
    have HN : Hid (∀ y : World, Has (y.alloc (.cells #[.int .u8 x.tg, .int .i64 x.ty, .int .i64 x.ln, .int .i64 x.sz] 37)) y.heap.size 37 [.int .u8 x.tg, .int .i64 x.ty, .int .i64 x.ln, .int .i64 x.sz]) := Lib.hid fun y => Hd.Hd.new y _
    have HTn : Hid (∀ y : World, Has (y.alloc (.cells #[.int .u8 (t.k : Int), .int .i64 t.wd, .int .u64 (t.ms : Int)] 55)) y.heap.size 55 [.int .u8 (t.k : Int), .int .i64 t.wd, .int .u64 (t.ms : Int)]) := Lib.hid fun y => Has.new y _ _
    have hV : ∀ (w' : World) v, Has w' v 80 [.pointer (some ⟨p, 0, none⟩), .int .i64 g, .int .u8 x.tg, .int .i64 x.ty, .int .i64 x.ln, .int .i64 x.sz, .int .u8 (t.k : Int), .int .i64 t.wd, .int .u64 (t.ms : Int), .int .i64 sl] → View w' v p g x t sl := fun w' v hh => ⟨hh⟩
    have HV := Lib.hid hV
    clear hV
    unfold Hd.val at *
    unfold Ty.val at *
    unfold Kd.typV at *
    by_cases h1 : x.tg = 1
    · by_cases h2 : fe = 0
      · subst h2
        cases ib with
        | true =>
          rw [if_neg (by simp [h1])]
          generalize x.tg = xg at *
          subst h1
          generalize x.ty = xt at *
          generalize x.ln = xn at *
          generalize x.sz = xs at *
          go_enter Tryd.func15, Tryd.ntmps15
          go_wp2_with fail
          refine (HH.out _ (Kept.refl [] w)).mono ?_
          rintro e x1 ⟨rfl, k1⟩
          have K1 := Lib.hid (k1.alloc (.cells #[.int .u8 1, .int .i64 xt, .int .i64 xn, .int .i64 xs] 37))
          have b1 := HN.out x1
          obtain ⟨c0, c1, c2, c3⟩ := cells4 b1
          have HB1 := Lib.hid b1
          clear k1 b1 HH HN
          go_wp2_with fail
          generalize x1.alloc (.cells #[.int .u8 1, .int .i64 xt, .int .i64 xn, .int .i64 xs] 37) = y1 at *
          generalize x1.heap.size = hb at *
          refine (HFt.out _ K1.out).mono ?_
          rintro e x2 ⟨rfl, k2⟩
          have K2 := Lib.hid (K1.out.trans k2)
          have b2 := HB1.out.keep0 k2
          have HB2 := Lib.hid b2
          clear k2 HFt K1 HB1 c0 c1 c2 c3
          obtain ⟨c0, c1, c2, c3⟩ := cells4 b2
          clear b2
          go_wp2_with fail
          refine (HI.out _ K2.out).mono ?_
          rintro e x3 ⟨rfl, rfl⟩
          go_wp2_with fail
          refine (HG.out _ K2.out).mono ?_
          rintro e x3 ⟨rfl, k3⟩
          have K3 := Lib.hid ((K2.out.trans k3).alloc (.cells #[.int .u8 (t.k : Int), .int .i64 t.wd, .int .u64 (t.ms : Int)] 55))
          have b3 := (HB2.out.keep0 k3).alloc (.cells #[.int .u8 (t.k : Int), .int .i64 t.wd, .int .u64 (t.ms : Int)] 55)
          have t3 := HTn.out x3
          have HB3 := Lib.hid b3
          have HT3 := Lib.hid t3
          clear k3 HG K2 HB2 c0 c1 c2 c3 HTn HI
          obtain ⟨c0, c1, c2, c3⟩ := cells4 b3
          obtain ⟨d0, d1, d2⟩ := cells3 t3
          clear b3 t3
          go_wp2_with fail
          generalize x3.alloc (.cells #[.int .u8 (t.k : Int), .int .i64 t.wd, .int .u64 (t.ms : Int)] 55) = y3 at *
          generalize x3.heap.size = tb at *
          refine (HS.out _).mono ?_
          rintro e x4 ⟨rfl, k4⟩
          have K4 := Lib.hid (K3.out.trans k4)
          have b4 := HB3.out.keep0 k4
          have t4 := HT3.out.keep0 k4
          clear k4 HS K3 HB3 HT3 c0 c1 c2 c3 d0 d1 d2
          obtain ⟨c0, c1, c2, c3⟩ := cells4 b4
          obtain ⟨d0, d1, d2⟩ := cells3 t4
          clear b4 t4
          go_wp2_with fail
          go_ret2
          exact ⟨K4.out.alloc _, .inr ⟨trivial, _, rfl, K4.out.more, HV.out _ _ (Has.new x4 _ _)⟩⟩
        | false =>
          rw [if_pos (.inr (.inr rfl))]
          generalize x.tg = xg at *
          subst h1
          generalize x.ty = xt at *
          generalize x.ln = xn at *
          generalize x.sz = xs at *
          go_enter Tryd.func15, Tryd.ntmps15
          go_wp2_with fail
          refine (HH.out _ (Kept.refl [] w)).mono ?_
          rintro e x1 ⟨rfl, k1⟩
          have K1 := Lib.hid (k1.alloc (.cells #[.int .u8 1, .int .i64 xt, .int .i64 xn, .int .i64 xs] 37))
          have b1 := HN.out x1
          obtain ⟨c0, c1, c2, c3⟩ := cells4 b1
          have HB1 := Lib.hid b1
          clear k1 b1 HH HN
          go_wp2_with fail
          generalize x1.alloc (.cells #[.int .u8 1, .int .i64 xt, .int .i64 xn, .int .i64 xs] 37) = y1 at *
          generalize x1.heap.size = hb at *
          refine (HFt.out _ K1.out).mono ?_
          rintro e x2 ⟨rfl, k2⟩
          have K2 := Lib.hid (K1.out.trans k2)
          have b2 := HB1.out.keep0 k2
          clear k2 HFt K1 HB1 c0 c1 c2 c3
          obtain ⟨c0, c1, c2, c3⟩ := cells4 b2
          clear b2
          go_wp2_with fail
          refine (HI.out _ K2.out).mono ?_
          rintro e x3 ⟨rfl, rfl⟩
          go_wp2_with fail
          go_ret2
          exact ⟨K2.out, .inl ⟨by decide, rfl⟩⟩
      · rw [if_pos (.inr (.inl h2))]
        have hb2 : (fe != 0) = true := by rw [bne_iff_ne]; exact h2
        generalize x.tg = xg at *
        subst h1
        generalize x.ty = xt at *
        generalize x.ln = xn at *
        generalize x.sz = xs at *
        go_enter Tryd.func15, Tryd.ntmps15
        go_wp2_with fail
        refine (HH.out _ (Kept.refl [] w)).mono ?_
        rintro e x1 ⟨rfl, k1⟩
        have K1 := Lib.hid (k1.alloc (.cells #[.int .u8 1, .int .i64 xt, .int .i64 xn, .int .i64 xs] 37))
        have b1 := HN.out x1
        obtain ⟨c0, c1, c2, c3⟩ := cells4 b1
        clear k1 b1 HH HN
        go_wp2_with fail
        generalize x1.alloc (.cells #[.int .u8 1, .int .i64 xt, .int .i64 xn, .int .i64 xs] 37) = y1 at *
        generalize x1.heap.size = hb at *
        refine (HFt.out _ K1.out).mono ?_
        rintro e x2 ⟨rfl, k2⟩
        have K2 := Lib.hid (K1.out.trans k2)
        clear k2 HFt K1 c0 c1 c2 c3
        go_wp2_with fail
        go_ret2
        exact ⟨K2.out, .inl ⟨by decide, rfl⟩⟩
    · rw [if_pos (.inl h1)]
      have hb1 : (x.tg != 1) = true := by rw [bne_iff_ne]; exact h1
      generalize x.tg = xg at *
      generalize x.ty = xt at *
      generalize x.ln = xn at *
      generalize x.sz = xs at *
      go_enter Tryd.func15, Tryd.ntmps15
      go_wp2_with fail
      refine (HH.out _ (Kept.refl [] w)).mono ?_
      rintro e x1 ⟨rfl, k1⟩
      have K1 := Lib.hid (k1.alloc (.cells #[.int .u8 xg, .int .i64 xt, .int .i64 xn, .int .i64 xs] 37))
      have b1 := HN.out x1
      obtain ⟨c0, c1, c2, c3⟩ := cells4 b1
      clear k1 b1 HH HN
      go_wp2_with fail
      go_ret2
      exact ⟨K1.out, .inl ⟨by decide, rfl⟩⟩
  · have hofE : ofE ws l g = hdE ws g := by unfold ofE; rw [if_pos he]
    refine (of_err _ _ g (hdH ws g) (hdE ws g) he (.inr ⟨p, rfl⟩) HH.out).mono ?_
    rintro e w' ⟨rfl, k⟩
    exact ⟨k, .inl ⟨by rw [hofE]; exact he, by rw [hofE]⟩⟩
end
end Go.Proofs.YtpnjblledbihcaaDoor.Sh
