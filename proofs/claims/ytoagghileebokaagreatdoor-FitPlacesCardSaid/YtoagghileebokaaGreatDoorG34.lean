/-
  Several texts in one: ShOf, ShBoth, SpObj, SpTold.
-/
import Derived.Test.YtoagghileebokaaGreatDoorG12
import Derived.Test.YtoagghileebokaaGreatDoorG18
import Derived.Test.YtoagghileebokaaGreatDoorG27
import Derived.Test.YtoagghileebokaaGreatDoorG07
import Derived.Test.YtoagghileebokaaGreatDoorG26
import Derived.Test.YtoagghileebokaaGreatDoorG29
/-
  The contract of Of.
-/
namespace Go.Proofs.YtoagghileebokaaGreatDoor.Sh
open Go.RowKit Go.Proofs.YtoagghileebokaaGreatDoor.Ar
open Go.Proofs.YtoagghileebokaaGreatDoor.Hd (Hd Fields decE decH isHead headI head_ok fitL ofL fits_tab cells4 free4)
open Go.Proofs.YtoagghileebokaaGreatDoor.Tb (Ty Tab getT hasT sizeE sizeT errT get_ok cells3)
set_option linter.unusedVariables false

theorem getT_ok {w : World} {p : Nat} {A : Option Addr} {c : Nat} {l : List Ty} (h : Tab w p A c l) (i : Int) : (getT l i).k < 256 ∧ (getT l i).ms < 18446744073709551616 := by
  unfold getT
  split
  · rw [List.getD_eq_getElem?_getD]
    cases hx : l[(i - 1).toNat]? with
    | none => exact ⟨by decide, by decide⟩
    | some v => exact (h.all v (List.mem_of_getElem? hx)).1
  · exact ⟨by decide, by decide⟩
def OfPost (w : World) (p : Nat) (ws : List Int) (l : List Ty) (g : Int) (e : Ending) (w' : World) : Prop :=
  Kept [] w w' ∧ ((ofE ws l g ≠ 0 ∧ e = .returned (.tuple #[.pointer none, .int .i64 (ofE ws l g)])) ∨
    (ofE ws l g = 0 ∧ ∃ v, e = .returned (.tuple #[.pointer (some ⟨v, 0, none⟩), .int .i64 0]) ∧ w.heap.size ≤ v ∧ View w' v p g (hdH ws g) (ofT ws l g) (ofS ws l g)))
section
variable {w : World}
set_option maxRecDepth 100000 in
set_option maxHeartbeats 1000000 in
/-- No header there. -/
theorem of_err (P T : Value) (g : Int) (x : Hd) (er : Int) (he : er ≠ 0) (hp : P = .pointer none ∨ ∃ p, P = .pointer (some ⟨p, 0, none⟩))
    (HH : ∀ y, Kept [] w y → Calls Tryz.prog 91 #[P, .int .i64 g] y fun e w' => e = .returned (.tuple #[x.val, .int .i64 er]) ∧ Kept [] y w') :
    Calls Tryz.prog 81 #[P, T, .int .i64 g] w fun e w' => e = .returned (.tuple #[.pointer none, .int .i64 er]) ∧ Kept [] w w' := by
  have H := Lib.hid HH
  have hb : (er != 0) = true := by rw [bne_iff_ne]; exact he
  unfold Hd.val at H
  clear HH he hp
  go_enter Tryz.func81, Tryz.ntmps81
  go_wp2_with fail
  refine (H.out _ (Kept.refl [] w)).mono ?_
  rintro e x1 ⟨rfl, k1⟩
  have K1 := Lib.hid k1
  clear k1 H
  go_wp2_with fail
  go_ret2
  exact ⟨rfl, K1.out.alloc _⟩
theorem of_nil (T : Value) (g : Int) : Calls Tryz.prog 81 #[.pointer none, T, .int .i64 g] w fun e w' => e = .returned (.tuple #[.pointer none, .int .i64 1]) ∧ Kept [] w w' :=
  of_err (.pointer none) T g Hd.Hd.zero 1 (by decide) (.inl rfl) fun y k => head_nil g
set_option maxRecDepth 100000 in
set_option maxHeartbeats 2000000 in
theorem of_ok (hF : Fields w) {p q : Nat} {ws : List Int} {n : Int} (h : Arena w p q ws n) (hW : Wds ws) {tp : Nat} {A : Option Addr} {c : Nat} {l : List Ty} (hT : Tab w tp A c l) (g : Int) (g0 : -9223372036854775808 ≤ g) (g1 : g ≤ 9223372036854775807) :
    Calls Tryz.prog 81 #[.pointer (some ⟨p, 0, none⟩), .pointer (some ⟨tp, 0, none⟩), .int .i64 g] w (OfPost w p ws l g) := by
  have HH := Lib.hid (fun y (k : Kept [] w y) => head_any (hF.keep0 k) (h.keep0 k) hW g g0 g1)
  by_cases he : hdE ws g = 0
  · have ok := hdH_ok (g := g) hW
    have HI := Lib.hid (fun y (k : Kept [] w y) => within_ok (h.keep0 k) g (hdH ws g).sz g1 ok.s0 ok.s1)
    have HFt := Lib.hid (fun y (k : Kept [] w y) => fits_tab (hF.keep0 k) (hT.keep0 k) (hdH ws g) ok)
    have HG := Lib.hid (fun y (k : Kept [] w y) => get_ok (hT.keep0 k) (hdH ws g).ty ok.t0 ok.t1)
    have hto := getT_ok hT (hdH ws g).ty
    have HS := Lib.hid (fun (y : World) => Kd.slots_ok (ofT ws l g).k (ofT ws l g).wd (ofT ws l g).ms (hdH ws g).ln hto.1 hto.2 y)
    have hofE : ofE ws l g = if (hdH ws g).tg ≠ 1 ∨ fitL l (hdH ws g) ≠ 0 ∨ inG ws.length g (hdH ws g).sz = false then 8 else 0 := by unfold ofE; rw [if_neg (by simpa using he)]
    have hg : ofT ws l g = getT l (hdH ws g).ty := rfl
    rw [← hg] at HG
    rw [he] at HH
    unfold OfPost ofS
    rw [hofE]
    clear hofE hto hg he hF h hW hT ok
    generalize hasT l (hdH ws g).ty = hh at *
    generalize hdH ws g = x at *
    generalize ofT ws l g = t at *
    generalize fitL l x = fe at *
    generalize inG ws.length g x.sz = ib at *
    generalize Kd.slotsR t.k t.wd t.ms x.ln = sl at *
    generalize Kd.err t.k t.wd t.ms x.ln = se at *
    have HN : Hid (∀ y : World, Has (y.alloc (.cells #[.int .u8 x.tg, .int .i64 x.ty, .int .i64 x.ln, .int .i64 x.sz] 49)) y.heap.size 49 [.int .u8 x.tg, .int .i64 x.ty, .int .i64 x.ln, .int .i64 x.sz]) := Lib.hid fun y => Hd.Hd.new y _
    have HTn : Hid (∀ y : World, Has (y.alloc (.cells #[.int .u8 (t.k : Int), .int .i64 t.wd, .int .u64 (t.ms : Int)] 57)) y.heap.size 57 [.int .u8 (t.k : Int), .int .i64 t.wd, .int .u64 (t.ms : Int)]) := Lib.hid fun y => Has.new y _ _
    have hV : ∀ (w' : World) v, Has w' v 187 [.pointer (some ⟨p, 0, none⟩), .int .i64 g, .int .u8 x.tg, .int .i64 x.ty, .int .i64 x.ln, .int .i64 x.sz, .int .u8 (t.k : Int), .int .i64 t.wd, .int .u64 (t.ms : Int), .int .i64 sl] → View w' v p g x t sl := fun w' v hh => ⟨hh⟩
    have HV := Lib.hid hV
    clear hV
    unfold Hd.val at *
    unfold Ty.val at *
    unfold Kd.typV at *
    by_cases h1 : x.tg = 1
    · by_cases h2 : fe = 0
      · subst h2
        cases ib with
        | true =>
          rw [if_neg (by simp [h1])]
          generalize x.tg = xg at *
          subst h1
          generalize x.ty = xt at *
          generalize x.ln = xn at *
          generalize x.sz = xs at *
          go_enter Tryz.func81, Tryz.ntmps81
          go_wp2_with fail
          refine (HH.out _ (Kept.refl [] w)).mono ?_
          rintro e x1 ⟨rfl, k1⟩
          have K1 := Lib.hid (k1.alloc (.cells #[.int .u8 1, .int .i64 xt, .int .i64 xn, .int .i64 xs] 49))
          have b1 := HN.out x1
          obtain ⟨c0, c1, c2, c3⟩ := cells4 b1
          have HB1 := Lib.hid b1
          clear k1 b1 HH HN
          go_wp2_with fail
          generalize x1.alloc (.cells #[.int .u8 1, .int .i64 xt, .int .i64 xn, .int .i64 xs] 49) = y1 at *
          generalize x1.heap.size = hb at *
          refine (HFt.out _ K1.out).mono ?_
          rintro e x2 ⟨rfl, k2⟩
          have K2 := Lib.hid (K1.out.trans k2)
          have b2 := HB1.out.keep0 k2
          have HB2 := Lib.hid b2
          clear k2 HFt K1 HB1 c0 c1 c2 c3
          obtain ⟨c0, c1, c2, c3⟩ := cells4 b2
          clear b2
          go_wp2_with fail
          refine (HI.out _ K2.out).mono ?_
          rintro e x3 ⟨rfl, rfl⟩
          go_wp2_with fail
          refine (HG.out _ K2.out).mono ?_
          rintro e x3 ⟨rfl, k3⟩
          have K3 := Lib.hid ((K2.out.trans k3).alloc (.cells #[.int .u8 (t.k : Int), .int .i64 t.wd, .int .u64 (t.ms : Int)] 57))
          have b3 := (HB2.out.keep0 k3).alloc (.cells #[.int .u8 (t.k : Int), .int .i64 t.wd, .int .u64 (t.ms : Int)] 57)
          have t3 := HTn.out x3
          have HB3 := Lib.hid b3
          have HT3 := Lib.hid t3
          clear k3 HG K2 HB2 c0 c1 c2 c3 HTn HI
          obtain ⟨c0, c1, c2, c3⟩ := cells4 b3
          obtain ⟨d0, d1, d2⟩ := cells3 t3
          clear b3 t3
          go_wp2_with fail
          generalize x3.alloc (.cells #[.int .u8 (t.k : Int), .int .i64 t.wd, .int .u64 (t.ms : Int)] 57) = y3 at *
          generalize x3.heap.size = tb at *
          refine (HS.out _).mono ?_
          rintro e x4 ⟨rfl, k4⟩
          have K4 := Lib.hid (K3.out.trans k4)
          have b4 := HB3.out.keep0 k4
          have t4 := HT3.out.keep0 k4
          clear k4 HS K3 HB3 HT3 c0 c1 c2 c3 d0 d1 d2
          obtain ⟨c0, c1, c2, c3⟩ := cells4 b4
          obtain ⟨d0, d1, d2⟩ := cells3 t4
          clear b4 t4
          go_wp2_with fail
          go_ret2
          exact ⟨K4.out.alloc _, .inr ⟨trivial, _, rfl, K4.out.more, HV.out _ _ (Has.new x4 _ _)⟩⟩
        | false =>
          rw [if_pos (.inr (.inr rfl))]
          generalize x.tg = xg at *
          subst h1
          generalize x.ty = xt at *
          generalize x.ln = xn at *
          generalize x.sz = xs at *
          go_enter Tryz.func81, Tryz.ntmps81
          go_wp2_with fail
          refine (HH.out _ (Kept.refl [] w)).mono ?_
          rintro e x1 ⟨rfl, k1⟩
          have K1 := Lib.hid (k1.alloc (.cells #[.int .u8 1, .int .i64 xt, .int .i64 xn, .int .i64 xs] 49))
          have b1 := HN.out x1
          obtain ⟨c0, c1, c2, c3⟩ := cells4 b1
          have HB1 := Lib.hid b1
          clear k1 b1 HH HN
          go_wp2_with fail
          generalize x1.alloc (.cells #[.int .u8 1, .int .i64 xt, .int .i64 xn, .int .i64 xs] 49) = y1 at *
          generalize x1.heap.size = hb at *
          refine (HFt.out _ K1.out).mono ?_
          rintro e x2 ⟨rfl, k2⟩
          have K2 := Lib.hid (K1.out.trans k2)
          have b2 := HB1.out.keep0 k2
          clear k2 HFt K1 HB1 c0 c1 c2 c3
          obtain ⟨c0, c1, c2, c3⟩ := cells4 b2
          clear b2
          go_wp2_with fail
          refine (HI.out _ K2.out).mono ?_
          rintro e x3 ⟨rfl, rfl⟩
          go_wp2_with fail
          go_ret2
          exact ⟨K2.out, .inl ⟨by decide, rfl⟩⟩
      · rw [if_pos (.inr (.inl h2))]
        have hb2 : (fe != 0) = true := by rw [bne_iff_ne]; exact h2
        generalize x.tg = xg at *
        subst h1
        generalize x.ty = xt at *
        generalize x.ln = xn at *
        generalize x.sz = xs at *
        go_enter Tryz.func81, Tryz.ntmps81
        go_wp2_with fail
        refine (HH.out _ (Kept.refl [] w)).mono ?_
        rintro e x1 ⟨rfl, k1⟩
        have K1 := Lib.hid (k1.alloc (.cells #[.int .u8 1, .int .i64 xt, .int .i64 xn, .int .i64 xs] 49))
        have b1 := HN.out x1
        obtain ⟨c0, c1, c2, c3⟩ := cells4 b1
        clear k1 b1 HH HN
        go_wp2_with fail
        generalize x1.alloc (.cells #[.int .u8 1, .int .i64 xt, .int .i64 xn, .int .i64 xs] 49) = y1 at *
        generalize x1.heap.size = hb at *
        refine (HFt.out _ K1.out).mono ?_
        rintro e x2 ⟨rfl, k2⟩
        have K2 := Lib.hid (K1.out.trans k2)
        clear k2 HFt K1 c0 c1 c2 c3
        go_wp2_with fail
        go_ret2
        exact ⟨K2.out, .inl ⟨by decide, rfl⟩⟩
    · rw [if_pos (.inl h1)]
      have hb1 : (x.tg != 1) = true := by rw [bne_iff_ne]; exact h1
      generalize x.tg = xg at *
      generalize x.ty = xt at *
      generalize x.ln = xn at *
      generalize x.sz = xs at *
      go_enter Tryz.func81, Tryz.ntmps81
      go_wp2_with fail
      refine (HH.out _ (Kept.refl [] w)).mono ?_
      rintro e x1 ⟨rfl, k1⟩
      have K1 := Lib.hid (k1.alloc (.cells #[.int .u8 xg, .int .i64 xt, .int .i64 xn, .int .i64 xs] 49))
      have b1 := HN.out x1
      obtain ⟨c0, c1, c2, c3⟩ := cells4 b1
      clear k1 b1 HH HN
      go_wp2_with fail
      go_ret2
      exact ⟨K1.out, .inl ⟨by decide, rfl⟩⟩
  · have hofE : ofE ws l g = hdE ws g := by unfold ofE; rw [if_pos he]
    refine (of_err _ _ g (hdH ws g) (hdE ws g) he (.inr ⟨p, rfl⟩) HH.out).mono ?_
    rintro e w' ⟨rfl, k⟩
    exact ⟨k, .inl ⟨by rw [hofE]; exact he, by rw [hofE]⟩⟩
end
end Go.Proofs.YtoagghileebokaaGreatDoor.Sh

/-
  An arena and a table that a law has made; the calls of shape on them.
-/
namespace Go.Proofs.YtoagghileebokaaGreatDoor.Sh
open Go.RowKit Go.Proofs.YtoagghileebokaaGreatDoor.Ar
open Go.Proofs.YtoagghileebokaaGreatDoor.Hd (Hd Fields encW ofL of_facts can_obj encW_yes word_range fitE)
open Go.Proofs.YtoagghileebokaaGreatDoor.Tb (Ty Tab Made blk getT hasT sizeE sizeT own_blk blk_own)
set_option linter.unusedVariables false

structure Both (w x : World) (p q tp : Nat) (A : Option Addr) (c : Nat) (l : List Ty) (ws : List Int) : Prop where
  kept : Kept [] w x
  ar : ∃ m, Arena x p q ws m
  tab : Tab x tp A c l
  hp : w.heap.size ≤ p
  hq : w.heap.size ≤ q
  np : tp ∉ [p, q]
  nb : ∀ g ∈ blk A, g ∉ [p, q]
  wm : Wm ws
namespace Both
variable {w x y : World} {p q tp : Nat} {A : Option Addr} {c : Nat} {l : List Ty} {ws ws' : List Int} {m : Int}
theorem keep0 (h : Both w x p q tp A c l ws) (k : Kept [] x y) : Both w y p q tp A c l ws := by
  obtain ⟨m, ha⟩ := h.ar
  exact ⟨h.kept.trans k, ⟨m, ha.keep0 k⟩, h.tab.keep0 k, h.hp, h.hq, h.np, h.nb, h.wm⟩
theorem wrote (h : Both w x p q tp A c l ws) (k : Kept [p, q] x y) (ha : ∃ m, Arena y p q ws' m) (hw : Wm ws') : Both w y p q tp A c l ws' := by
  refine ⟨h.kept.forget k ?_, ha, h.tab.kept k h.np ?_, h.hp, h.hq, h.np, h.nb, hw⟩
  · intro i hi
    have := h.hp
    have := h.hq
    simp at hi
    omega
  · intro g hg e
    exact h.nb g (blk_own e) hg
theorem fields (h : Both w x p q tp A c l ws) (hF : Fields w) : Fields x := hF.keep0 h.kept
end Both
section
variable {w x : World} {p q tp : Nat} {A : Option Addr} {c : Nat} {l : List Ty} {ws : List Int}
/-- A view, with the arena and the table. -/
structure Vw (w x : World) (v p q tp : Nat) (A : Option Addr) (c : Nat) (l : List Ty) (ws : List Int) (g : Int) (h : Hd) (t : Ty) (sl : Int) : Prop where
  both : Both w x p q tp A c l ws
  view : View x v p g h t sl
  nv : v ∉ [p, q]
theorem Vw.keep0 {y : World} {v : Nat} {g : Int} {h : Hd} {t : Ty} {sl : Int} (H : Vw w x v p q tp A c l ws g h t sl) (k : Kept [] x y) : Vw w y v p q tp A c l ws g h t sl := ⟨H.both.keep0 k, H.view.keep0 k, H.nv⟩
theorem Vw.wrote {y : World} {v : Nat} {g : Int} {h : Hd} {t : Ty} {sl : Int} {ws' : List Int} (H : Vw w x v p q tp A c l ws g h t sl) (k : Kept [p, q] x y) (ha : ∃ m, Arena y p q ws' m) (hw : Wm ws') : Vw w y v p q tp A c l ws' g h t sl :=
  ⟨H.both.wrote k ha hw, H.view.kept k H.nv, H.nv⟩
/-- A block of another kind may turn. -/
theorem Vw.beside {y : World} {v b : Nat} {g : Int} {h : Hd} {t : Ty} {sl : Int} {cs : List Value} (H : Vw w x v p q tp A c l ws g h t sl) (hb : Has x b 49 cs) (hwb : w.heap.size ≤ b) (k : Kept [b] x y) : Vw w y v p q tp A c l ws g h t sl := by
  obtain ⟨m, ha⟩ := H.both.ar
  have n1 : p ∉ [b] := by simpa using Has.block_type ha.head hb (by decide)
  have n2 : q ∉ [b] := by simpa using Has.block_type ha.row hb (by decide)
  have n3 : tp ∉ [b] := by simpa using Has.block_type H.both.tab.head hb (by decide)
  have n4 : v ∉ [b] := by simpa using Has.block_type H.view.row hb (by decide)
  have n5 : ∀ g ∈ [b], (Value.slice A l.length c).ownBlock ≠ some g := by
    intro g hg e
    obtain rfl := List.mem_singleton.1 hg
    rcases H.both.tab.own.2 with ⟨h1, _⟩ | ⟨g', cap', cur, h1, _, hg', _⟩
    · injection h1 with h1
      subst h1
      cases e
    · injection h1 with h1
      subst h1
      have e' : g' = g := by injection e
      subst e'
      have e2 := hg'.symm.trans hb
      injection e2 with e2
      injection e2 with _ e2
      exact absurd e2 (by decide)
  refine ⟨⟨H.both.kept.forget k (by simpa using hwb), ⟨m, ha.kept k n1 n2⟩, H.both.tab.kept k n3 n5, H.both.hp, H.both.hq, H.both.np, H.both.nb, H.both.wm⟩, H.view.kept k n4, H.nv⟩
/-- What is known of what stands there. -/
structure Facts (ws : List Int) (l : List Ty) (g : Int) (gn sl : Nat) : Prop where
  gEq : g = (gn : Int)
  slEq : ofS ws l g = (sl : Int)
  k : (ofT ws l g).k < 256
  ms : (ofT ws l g).ms < 18446744073709551616
  err : Kd.err (ofT ws l g).k (ofT ws l g).wd (ofT ws l g).ms (hdH ws g).ln = 0
  slots : Kd.slots (ofT ws l g).k (ofT ws l g).wd (hdH ws g).ln = (sl : Int)
  room : 2 * gn + 1 + sl ≤ ws.length
/-- What a view's Refs and Targets go over. -/
theorem src_of {v : Nat} {g : Int} {h : Hd} {t : Ty} {gn sl : Nat} (H : Vw w x v p q tp A c l ws g h t (sl : Int)) (hg : g = (gn : Int)) (hk : t.k < 256) (hm : t.ms < 18446744073709551616) (he : Kd.err t.k t.wd t.ms h.ln = 0) (hs : Kd.slots t.k t.wd h.ln = (sl : Int)) (hr : 2 * gn + 1 + sl ≤ ws.length) : Src x (some ⟨v, 0, none⟩) (pairs ws gn t sl) := by
  obtain ⟨m, ha⟩ := H.both.ar
  subst hg
  exact .inr ⟨v, p, q, m, gn, h, t, sl, ws, rfl, H.view, ha, hk, hm, he, hs, hr, rfl⟩
end
end Go.Proofs.YtoagghileebokaaGreatDoor.Sh

/-
  What stands at a granule where an object begins; and what a slot's word becomes.
-/
namespace Go.Proofs.YtoagghileebokaaGreatDoor.Sp
open Go.RowKit Go.Proofs.YtoagghileebokaaGreatDoor.Ar Go.Proofs.YtoagghileebokaaGreatDoor.Sh
open Go.Proofs.YtoagghileebokaaGreatDoor.Hd (Hd Fields fitE ofL fitL wordI)
open Go.Proofs.YtoagghileebokaaGreatDoor.Tb (Ty sizeE sizeT getT hasT)
set_option linter.unusedVariables false
theorem facts_all {ws : List Int} {l : List Ty} {g : Int} (hT : ∀ x ∈ l, x.ok ∧ x.fit) (h : ofE ws l g = 0) : ∃ gn sl, Facts ws l g gn sl := by
  have S := stand_of h
  have hto : (ofT ws l g).ok := Tb.getT_ok hT (hdH ws g).ty
  obtain ⟨j0, j1⟩ := (inG_iff _ _ _).1 S.isin
  have hfit := S.fit
  unfold Hd.fitL fitE at hfit
  by_cases hc : (hdH ws g).can
  · rw [if_neg (by simpa using hc), if_neg (by simpa using S.tag)] at hfit
    have hne : ¬ (sizeE l (hdH ws g).ty (hdH ws g).ln ≠ 0 ∨ ofL l (hdH ws g).ty (hdH ws g).ln ≠ hdH ws g) := by
      intro hh
      rw [if_pos hh] at hfit
      cases hfit
    have he : sizeE l (hdH ws g).ty (hdH ws g).ln = 0 := Classical.byContradiction fun e => hne (.inl e)
    have ho : ofL l (hdH ws g).ty (hdH ws g).ln = hdH ws g := Classical.byContradiction fun e => hne (.inr e)
    have hhas : hasT l (hdH ws g).ty = true := by
      cases hx : hasT l (hdH ws g).ty with
      | true => rfl
      | false => unfold sizeE at he; rw [hx, if_neg (by decide)] at he; cases he
    have herr : Kd.err (ofT ws l g).k (ofT ws l g).wd (ofT ws l g).ms (hdH ws g).ln = 0 := by
      unfold sizeE at he
      rw [hhas] at he
      exact he
    obtain ⟨b0, b1⟩ := Kd.slots_bound herr
    have hsz : (hdH ws g).sz = Kd.sizeR (ofT ws l g).k (ofT ws l g).wd (ofT ws l g).ms (hdH ws g).ln := by
      rw [← ho]
      unfold Hd.ofL Hd.ofH
      rw [if_pos he]
      simp only
      unfold sizeT
      rw [hhas]
      rfl
    have hss : ofS ws l g = Kd.slots (ofT ws l g).k (ofT ws l g).wd (hdH ws g).ln := by unfold ofS Kd.slotsR; rw [if_pos herr]
    unfold Kd.sizeR at hsz
    rw [if_pos herr] at hsz
    refine ⟨g.toNat, (ofS ws l g).toNat, by omega, by rw [hss]; omega, hto.1, hto.2, herr, by rw [hss]; omega, ?_⟩
    rw [hss]
    omega
  · rw [if_pos hc] at hfit
    cases hfit

theorem obj_of {ws : List Int} {l : List Ty} {cs : List Cel} {f e : Int} (h : Tiled ws l f cs e) (h0 : 0 ≤ f) (he : e ≤ gran ws) {c : Cel} (hc : c ∈ cs) (ht : c.h.tg = 1) : ofE ws l c.a = 0 ∧ hdH ws c.a = c.h := by
  obtain ⟨k1, k2, k3⟩ := Tiled.cell h h0 he c hc
  obtain ⟨m1, m2, m3, m4, m5⟩ := h.mem c hc
  have hg : gran ws = (ws.length : Int) / 2 := rfl
  refine ⟨?_, k2⟩
  unfold ofE
  rw [if_neg (by simpa using k1), k2, if_neg]
  rintro (h1 | h1 | h1)
  · exact h1 ht
  · exact h1 m5
  · rw [(inG_iff _ _ _).2 ⟨by omega, by omega⟩] at h1
    cases h1
end Go.Proofs.YtoagghileebokaaGreatDoor.Sp

/-
  The law's own function told: the objects of cells are just those of a row, all others are gaps told as they must be.
-/
namespace Go.Proofs.YtoagghileebokaaGreatDoor.Sp
open Go.RowKit Go.Proofs.YtoagghileebokaaGreatDoor.Ar Go.Proofs.YtoagghileebokaaGreatDoor.Sh Go.Sort
open Go.Proofs.YtoagghileebokaaGreatDoor.Hd (Hd)
open Go.Proofs.YtoagghileebokaaGreatDoor.Tb (Ty)
set_option linter.unusedVariables false

section
variable {w : World} {A B : Option Addr} {cap capT : Nat}
end
end Go.Proofs.YtoagghileebokaaGreatDoor.Sp
