/-
  Several texts in one: ShOf, KdDocRefs.
-/
import Derived.Test.YtagmmbkgjomdlaaGreatDoorG24
import Derived.Test.YtagmmbkgjomdlaaGreatDoorG32
import Derived.Test.YtagmmbkgjomdlaaGreatDoorG23
/-
  The contract of Of.
-/
namespace Go.Proofs.YtagmmbkgjomdlaaGreatDoor.Sh
open Go.RowKit Go.Proofs.YtagmmbkgjomdlaaGreatDoor.Ar
open Go.Proofs.YtagmmbkgjomdlaaGreatDoor.Hd (Hd Fields decE decH isHead headI head_ok fitL ofL fits_tab cells4 free4)
open Go.Proofs.YtagmmbkgjomdlaaGreatDoor.Tb (Ty Tab getT hasT sizeE sizeT errT get_ok cells3)
set_option linter.unusedVariables false

theorem getT_ok {w : World} {p : Nat} {A : Option Addr} {c : Nat} {l : List Ty} (h : Tab w p A c l) (i : Int) : (getT l i).k < 256 ∧ (getT l i).ms < 18446744073709551616 := by
  unfold getT
  split
  · rw [List.getD_eq_getElem?_getD]
    cases hx : l[(i - 1).toNat]? with
    | none => exact ⟨by decide, by decide⟩
    | some v => exact (h.all v (List.mem_of_getElem? hx)).1
  · exact ⟨by decide, by decide⟩
def OfPost (w : World) (p : Nat) (ws : List Int) (l : List Ty) (g : Int) (e : Ending) (w' : World) : Prop :=
  Kept [] w w' ∧ ((ofE ws l g ≠ 0 ∧ e = .returned (.tuple #[.pointer none, .int .i64 (ofE ws l g)])) ∨
    (ofE ws l g = 0 ∧ ∃ v, e = .returned (.tuple #[.pointer (some ⟨v, 0, none⟩), .int .i64 0]) ∧ w.heap.size ≤ v ∧ View w' v p g (hdH ws g) (ofT ws l g) (ofS ws l g)))
section
variable {w : World}
set_option maxRecDepth 100000 in
set_option maxHeartbeats 1000000 in
/-- No header there. -/
theorem of_err (P T : Value) (g : Int) (x : Hd) (er : Int) (he : er ≠ 0) (hp : P = .pointer none ∨ ∃ p, P = .pointer (some ⟨p, 0, none⟩))
    (HH : ∀ y, Kept [] w y → Calls Tryz.prog 75 #[P, .int .i64 g] y fun e w' => e = .returned (.tuple #[x.val, .int .i64 er]) ∧ Kept [] y w') :
    Calls Tryz.prog 35 #[P, T, .int .i64 g] w fun e w' => e = .returned (.tuple #[.pointer none, .int .i64 er]) ∧ Kept [] w w' := by
  have H := Lib.hid HH
  have hb : (er != 0) = true := by rw [bne_iff_ne]; exact he
  unfold Hd.val at H
  clear HH he hp
  go_enter Tryz.func35, Tryz.ntmps35
  go_wp2_with fail
  refine (H.out _ (Kept.refl [] w)).mono ?_
  rintro e x1 ⟨rfl, k1⟩
  have K1 := Lib.hid k1
  clear k1 H
  go_wp2_with fail
  go_ret2
  exact ⟨rfl, K1.out.alloc _⟩
theorem of_nil (T : Value) (g : Int) : Calls Tryz.prog 35 #[.pointer none, T, .int .i64 g] w fun e w' => e = .returned (.tuple #[.pointer none, .int .i64 1]) ∧ Kept [] w w' :=
  of_err (.pointer none) T g Hd.Hd.zero 1 (by decide) (.inl rfl) fun y k => head_nil g
set_option maxRecDepth 100000 in
set_option maxHeartbeats 2000000 in
theorem of_ok (hF : Fields w) {p q : Nat} {ws : List Int} {n : Int} (h : Arena w p q ws n) (hW : Wds ws) {tp : Nat} {A : Option Addr} {c : Nat} {l : List Ty} (hT : Tab w tp A c l) (g : Int) (g0 : -9223372036854775808 ≤ g) (g1 : g ≤ 9223372036854775807) :
    Calls Tryz.prog 35 #[.pointer (some ⟨p, 0, none⟩), .pointer (some ⟨tp, 0, none⟩), .int .i64 g] w (OfPost w p ws l g) := by
  have HH := Lib.hid (fun y (k : Kept [] w y) => head_any (hF.keep0 k) (h.keep0 k) hW g g0 g1)
  by_cases he : hdE ws g = 0
  · have ok := hdH_ok (g := g) hW
    have HI := Lib.hid (fun y (k : Kept [] w y) => within_ok (h.keep0 k) g (hdH ws g).sz g1 ok.s0 ok.s1)
    have HFt := Lib.hid (fun y (k : Kept [] w y) => fits_tab (hF.keep0 k) (hT.keep0 k) (hdH ws g) ok)
    have HG := Lib.hid (fun y (k : Kept [] w y) => get_ok (hT.keep0 k) (hdH ws g).ty ok.t0 ok.t1)
    have hto := getT_ok hT (hdH ws g).ty
    have HS := Lib.hid (fun (y : World) => Kd.slots_ok (ofT ws l g).k (ofT ws l g).wd (ofT ws l g).ms (hdH ws g).ln hto.1 hto.2 y)
    have hofE : ofE ws l g = if (hdH ws g).tg ≠ 1 ∨ fitL l (hdH ws g) ≠ 0 ∨ inG ws.length g (hdH ws g).sz = false then 8 else 0 := by unfold ofE; rw [if_neg (by simpa using he)]
    have hg : ofT ws l g = getT l (hdH ws g).ty := rfl
    rw [← hg] at HG
    rw [he] at HH
    unfold OfPost ofS
    rw [hofE]
    clear hofE hto hg he hF h hW hT ok
    generalize hasT l (hdH ws g).ty = hh at *
    generalize hdH ws g = x at *
    generalize ofT ws l g = t at *
    generalize fitL l x = fe at *
    generalize inG ws.length g x.sz = ib at *
    generalize Kd.slotsR t.k t.wd t.ms x.ln = sl at *
    generalize Kd.err t.k t.wd t.ms x.ln = se at *
    have HN : Hid (∀ y : World, Has (y.alloc (.cells #[.int .u8 x.tg, .int .i64 x.ty, .int .i64 x.ln, .int .i64 x.sz] 76)) y.heap.size 76 [.int .u8 x.tg, .int .i64 x.ty, .int .i64 x.ln, .int .i64 x.sz]) := Lib.hid fun y => Hd.Hd.new y _
    have HTn : Hid (∀ y : World, Has (y.alloc (.cells #[.int .u8 (t.k : Int), .int .i64 t.wd, .int .u64 (t.ms : Int)] 84)) y.heap.size 84 [.int .u8 (t.k : Int), .int .i64 t.wd, .int .u64 (t.ms : Int)]) := Lib.hid fun y => Has.new y _ _
    have hV : ∀ (w' : World) v, Has w' v 151 [.pointer (some ⟨p, 0, none⟩), .int .i64 g, .int .u8 x.tg, .int .i64 x.ty, .int .i64 x.ln, .int .i64 x.sz, .int .u8 (t.k : Int), .int .i64 t.wd, .int .u64 (t.ms : Int), .int .i64 sl] → View w' v p g x t sl := fun w' v hh => ⟨hh⟩
    have HV := Lib.hid hV
    clear hV
    unfold Hd.val at *
    unfold Ty.val at *
    unfold Kd.typV at *
    by_cases h1 : x.tg = 1
    · by_cases h2 : fe = 0
      · subst h2
        cases ib with
        | true =>
          rw [if_neg (by simp [h1])]
          generalize x.tg = xg at *
          subst h1
          generalize x.ty = xt at *
          generalize x.ln = xn at *
          generalize x.sz = xs at *
          go_enter Tryz.func35, Tryz.ntmps35
          go_wp2_with fail
          refine (HH.out _ (Kept.refl [] w)).mono ?_
          rintro e x1 ⟨rfl, k1⟩
          have K1 := Lib.hid (k1.alloc (.cells #[.int .u8 1, .int .i64 xt, .int .i64 xn, .int .i64 xs] 76))
          have b1 := HN.out x1
          obtain ⟨c0, c1, c2, c3⟩ := cells4 b1
          have HB1 := Lib.hid b1
          clear k1 b1 HH HN
          go_wp2_with fail
          generalize x1.alloc (.cells #[.int .u8 1, .int .i64 xt, .int .i64 xn, .int .i64 xs] 76) = y1 at *
          generalize x1.heap.size = hb at *
          refine (HFt.out _ K1.out).mono ?_
          rintro e x2 ⟨rfl, k2⟩
          have K2 := Lib.hid (K1.out.trans k2)
          have b2 := HB1.out.keep0 k2
          have HB2 := Lib.hid b2
          clear k2 HFt K1 HB1 c0 c1 c2 c3
          obtain ⟨c0, c1, c2, c3⟩ := cells4 b2
          clear b2
          go_wp2_with fail
          refine (HI.out _ K2.out).mono ?_
          rintro e x3 ⟨rfl, rfl⟩
          go_wp2_with fail
          refine (HG.out _ K2.out).mono ?_
          rintro e x3 ⟨rfl, k3⟩
          have K3 := Lib.hid ((K2.out.trans k3).alloc (.cells #[.int .u8 (t.k : Int), .int .i64 t.wd, .int .u64 (t.ms : Int)] 84))
          have b3 := (HB2.out.keep0 k3).alloc (.cells #[.int .u8 (t.k : Int), .int .i64 t.wd, .int .u64 (t.ms : Int)] 84)
          have t3 := HTn.out x3
          have HB3 := Lib.hid b3
          have HT3 := Lib.hid t3
          clear k3 HG K2 HB2 c0 c1 c2 c3 HTn HI
          obtain ⟨c0, c1, c2, c3⟩ := cells4 b3
          obtain ⟨d0, d1, d2⟩ := cells3 t3
          clear b3 t3
          go_wp2_with fail
          generalize x3.alloc (.cells #[.int .u8 (t.k : Int), .int .i64 t.wd, .int .u64 (t.ms : Int)] 84) = y3 at *
          generalize x3.heap.size = tb at *
          refine (HS.out _).mono ?_
          rintro e x4 ⟨rfl, k4⟩
          have K4 := Lib.hid (K3.out.trans k4)
          have b4 := HB3.out.keep0 k4
          have t4 := HT3.out.keep0 k4
          clear k4 HS K3 HB3 HT3 c0 c1 c2 c3 d0 d1 d2
          obtain ⟨c0, c1, c2, c3⟩ := cells4 b4
          obtain ⟨d0, d1, d2⟩ := cells3 t4
          clear b4 t4
          go_wp2_with fail
          go_ret2
          exact ⟨K4.out.alloc _, .inr ⟨trivial, _, rfl, K4.out.more, HV.out _ _ (Has.new x4 _ _)⟩⟩
        | false =>
          rw [if_pos (.inr (.inr rfl))]
          generalize x.tg = xg at *
          subst h1
          generalize x.ty = xt at *
          generalize x.ln = xn at *
          generalize x.sz = xs at *
          go_enter Tryz.func35, Tryz.ntmps35
          go_wp2_with fail
          refine (HH.out _ (Kept.refl [] w)).mono ?_
          rintro e x1 ⟨rfl, k1⟩
          have K1 := Lib.hid (k1.alloc (.cells #[.int .u8 1, .int .i64 xt, .int .i64 xn, .int .i64 xs] 76))
          have b1 := HN.out x1
          obtain ⟨c0, c1, c2, c3⟩ := cells4 b1
          have HB1 := Lib.hid b1
          clear k1 b1 HH HN
          go_wp2_with fail
          generalize x1.alloc (.cells #[.int .u8 1, .int .i64 xt, .int .i64 xn, .int .i64 xs] 76) = y1 at *
          generalize x1.heap.size = hb at *
          refine (HFt.out _ K1.out).mono ?_
          rintro e x2 ⟨rfl, k2⟩
          have K2 := Lib.hid (K1.out.trans k2)
          have b2 := HB1.out.keep0 k2
          clear k2 HFt K1 HB1 c0 c1 c2 c3
          obtain ⟨c0, c1, c2, c3⟩ := cells4 b2
          clear b2
          go_wp2_with fail
          refine (HI.out _ K2.out).mono ?_
          rintro e x3 ⟨rfl, rfl⟩
          go_wp2_with fail
          go_ret2
          exact ⟨K2.out, .inl ⟨by decide, rfl⟩⟩
      · rw [if_pos (.inr (.inl h2))]
        have hb2 : (fe != 0) = true := by rw [bne_iff_ne]; exact h2
        generalize x.tg = xg at *
        subst h1
        generalize x.ty = xt at *
        generalize x.ln = xn at *
        generalize x.sz = xs at *
        go_enter Tryz.func35, Tryz.ntmps35
        go_wp2_with fail
        refine (HH.out _ (Kept.refl [] w)).mono ?_
        rintro e x1 ⟨rfl, k1⟩
        have K1 := Lib.hid (k1.alloc (.cells #[.int .u8 1, .int .i64 xt, .int .i64 xn, .int .i64 xs] 76))
        have b1 := HN.out x1
        obtain ⟨c0, c1, c2, c3⟩ := cells4 b1
        clear k1 b1 HH HN
        go_wp2_with fail
        generalize x1.alloc (.cells #[.int .u8 1, .int .i64 xt, .int .i64 xn, .int .i64 xs] 76) = y1 at *
        generalize x1.heap.size = hb at *
        refine (HFt.out _ K1.out).mono ?_
        rintro e x2 ⟨rfl, k2⟩
        have K2 := Lib.hid (K1.out.trans k2)
        clear k2 HFt K1 c0 c1 c2 c3
        go_wp2_with fail
        go_ret2
        exact ⟨K2.out, .inl ⟨by decide, rfl⟩⟩
    · rw [if_pos (.inl h1)]
      have hb1 : (x.tg != 1) = true := by rw [bne_iff_ne]; exact h1
      generalize x.tg = xg at *
      generalize x.ty = xt at *
      generalize x.ln = xn at *
      generalize x.sz = xs at *
      go_enter Tryz.func35, Tryz.ntmps35
      go_wp2_with fail
      refine (HH.out _ (Kept.refl [] w)).mono ?_
      rintro e x1 ⟨rfl, k1⟩
      have K1 := Lib.hid (k1.alloc (.cells #[.int .u8 xg, .int .i64 xt, .int .i64 xn, .int .i64 xs] 76))
      have b1 := HN.out x1
      obtain ⟨c0, c1, c2, c3⟩ := cells4 b1
      clear k1 b1 HH HN
      go_wp2_with fail
      go_ret2
      exact ⟨K1.out, .inl ⟨by decide, rfl⟩⟩
  · have hofE : ofE ws l g = hdE ws g := by unfold ofE; rw [if_pos he]
    refine (of_err _ _ g (hdH ws g) (hdE ws g) he (.inr ⟨p, rfl⟩) HH.out).mono ?_
    rintro e w' ⟨rfl, k⟩
    exact ⟨k, .inl ⟨by rw [hofE]; exact he, by rw [hofE]⟩⟩
end
end Go.Proofs.YtagmmbkgjomdlaaGreatDoor.Sh

/-
  The document's is, Ref, and Refs.
-/
namespace Go.Proofs.YtagmmbkgjomdlaaGreatDoor.Kd
open Go.RowKit Go.Proofs.YtagmmbkgjomdlaaGreatDoor.Ar Go.Proofs.YtagmmbkgjomdlaaGreatDoor.Ir Go.Maps
set_option linter.unusedVariables false

set_option maxRecDepth 100000 in
theorem is_ok {k : Nat} {wd : Int} {mk : Nat} {n : Int} (h : err k wd mk n = 0) (hm : mk < 18446744073709551616) (s : Nat) (hs : (s : Int) < slots k wd n) (w : World) :
    Calls Tryz.prog 134 #[typV k wd mk, .int .i64 (s : Int)] w fun e w' => e = .returned (.bool (isRef k wd mk s)) ∧ Kept [] w w' := by
  obtain ⟨sb0, sb1⟩ := slots_bound h
  obtain ⟨hy, h0, h1, h2⟩ := err_zero h
  obtain ⟨_, w0, w1, hk, w3⟩ := may_kind hy
  obtain ⟨v, rfl⟩ := Int.eq_ofNat_of_zero_le w0
  clear h hy
  unfold typV
  rcases hk with rfl | rfl | rfl | rfl
  · have hs' : s < v := by have : (s : Int) < (v : Int) := hs; omega
    have hr : isRef 1 (v : Int) mk s = decide (mk / 2 ^ s % 2 = 1) := by
      show decide (mk / 2 ^ (s % v) % 2 = 1) = _
      rw [Nat.mod_eq_of_lt hs']
    rw [hr, ← bit_test]
    have hs64 : s < 64 := by omega
    clear hr hs
    go_enter Tryz.func134, Tryz.ntmps134
    go_wp2_with fail
    go_ret
    exact ⟨rfl, (Kept.refl [] w).alloc _⟩
  · go_enter Tryz.func134, Tryz.ntmps134
    go_wp2_with fail
    go_ret
    exact ⟨rfl, (Kept.refl [] w).alloc _⟩
  · have hr : isRef 3 (v : Int) mk s = decide (mk / 2 ^ (s % v) % 2 = 1) := rfl
    rw [hr, ← bit_test]
    obtain ⟨v1, v2⟩ := w3 rfl
    have hw : ¬ ((v : Int) = 0) := by omega
    have hs2 : s ≤ 65536 := by omega
    have hrl : s % v < 64 := by have := Nat.mod_lt s (show 0 < v by omega); omega
    clear hr hs sb0 sb1
    have ht : IntKind.i64.wrap ((s : Int).tmod (v : Int)) = ((s % v : Nat) : Int) := by
      rw [Int.tmod_eq_emod_of_nonneg (by omega), IntKind.wrap_i64]
      omega
    go_enter Tryz.func134, Tryz.ntmps134
    go_wp2_with fail
    go_quiet (fail)
    go_wp2_with fail
    go_ret
    exact ⟨rfl, ((Kept.refl [] w).alloc _).drewN _⟩
  · go_enter Tryz.func134, Tryz.ntmps134
    go_wp2_with fail
    go_ret
    exact ⟨rfl, (Kept.refl [] w).alloc _⟩
set_option maxRecDepth 100000 in
set_option maxHeartbeats 4000000 in
theorem refsDoc_ok (k : Nat) (wd : Int) (mk : Nat) (n : Int) (hm : mk < 18446744073709551616) (w : World) :
    Calls Tryz.prog 93 #[typV k wd mk, .int .i64 n] w (RefsPost w k wd mk n) := by
  have HL := Lib.hid (fun x => slotsDoc_ok k wd mk n hm x)
  have hka : ∀ (x : World) (o : Obj), Kept [] x (x.alloc o) := fun x o => (Kept.refl [] x).alloc o
  have hH : Has (w.alloc (.cells #[.int .u8 (k : Int), .int .i64 wd, .int .u64 (mk : Int)] 84)) w.heap.size 84 [.int .u8 (k : Int), .int .i64 wd, .int .u64 (mk : Int)] := Has.new w _ _
  unfold RefsPost refsR slotsR at *
  by_cases h : err k wd mk n = 0
  · have HI := Lib.hid (fun (t : Nat) (ht : (t : Int) < slots k wd n) x => is_ok h hm t ht x)
    obtain ⟨sb0, sb1⟩ := slots_bound h
    unfold typV at *
    simp only [h, if_true] at HL ⊢
    clear h
    obtain ⟨sl, hsl⟩ := Int.eq_ofNat_of_zero_le sb0
    rw [hsl] at HL HI sb0 sb1 ⊢
    rw [Int.toNat_natCast]
    clear hsl sb0
    have hsb : sl ≤ 65536 := by omega
    go_enter Tryz.func93, Tryz.ntmps93
    go_wp2_with fail
    refine (HL.out _).mono ?_
    rintro e W2 ⟨rfl, hk1⟩
    have hk4 := Lib.hid ((hka w _).trans hk1)
    have Hl := Lib.hid (hH.keep0 hk1)
    clear hk1 HL hH
    go_wp2_with fail
    generalize w.heap.size = B at *
    go_loopw [8, 9] (fun s t wr => ∃ m : Nat, m ≤ sl ∧ t = .int .i64 (m : Int) ∧ Hid (Ir.Own wr s (refsTo k wd mk m) ∧ Fresh W2 s ∧ Kept [] W2 wr)) (fun _ t _ => sl - (intOf t).toNat)
    case atStart => exact ⟨0, Nat.zero_le _, rfl, Lib.hid ⟨Ir.Own.nil _, .inl rfl, Kept.refl _ _⟩⟩
    case round =>
      obtain ⟨m, hm', rfl, hr⟩ := hrel
      by_cases hlt : m < sl
      · obtain ⟨x0, x1, x2⟩ := cells3 (Hl.out.keep0 hr.out.2.2)
        have HR' := Lib.hid (fun x => HI.out m (by omega) x)
        have hstep := refsTo_succ k wd mk m
        have hlen := refsTo_length k wd mk m
        cases hb : isRef k wd mk m with
        | false =>
          rw [hb] at HR' hstep
          rw [if_neg (by decide)] at hstep
          have HE := Lib.hid hstep
          clear hb hstep
          go_wp2_with fail
          refine (HR'.out _).mono ?_
          rintro e W3 ⟨rfl, hk5⟩
          have HN := Lib.hid (show Ir.Own W3 u8 (refsTo k wd mk (m + 1)) ∧ Fresh W2 u8 ∧ Kept [] W2 W3 from ⟨by rw [HE.out]; exact hr.out.1.keep0 hk5, hr.out.2.1, hr.out.2.2.trans hk5⟩)
          clear hk5 HR' hr
          go_wp2_with fail
          go_roundw
          case rel => exact ⟨m + 1, by omega, by go_num, HN⟩
          case measure => simp [intOf]; omega
        | true =>
          rw [hb] at HR' hstep
          rw [if_pos rfl] at hstep
          have HE := Lib.hid hstep
          clear hb hstep
          go_wp2_with fail
          refine (HR'.out _).mono ?_
          rintro e W3 ⟨rfl, hk5⟩
          have HO0 := Lib.hid (hr.out.1.keep0 hk5)
          have HK0 := Lib.hid (hr.out.2.2.trans hk5)
          have HF := Lib.hid hr.out.2.1
          clear hk5 HR' hr
          have HK := Lib.hid ((Kept.refl [] W3).alloc (.cells #[.int .i64 (m : Int)] 3))
          have HSe : Hid (Ir.Seen (W3.alloc (.cells #[.int .i64 (m : Int)] 3)) (some ⟨W3.heap.size, 0, none⟩) [(m : Int)]) := Ir.Row.seen (Has.new W3 3 (Ir.ints [(m : Int)]))
          have HO := Lib.hid (HO0.out.keep0 HK.out)
          generalize refsTo k wd mk m = L at *
          go_wp2_with (at_builtin; (refine append_numbers rfl (.tmp 27) (.tmp 29) rfl u8 L rfl HO.out (some ⟨W3.heap.size, 0, none⟩) 1 1 [(m : Int)] rfl rfl (fun h => by cases h) HSe.out (by omega) ?_))
          intro s2 w2 hO2 hG2 hB2
          have hwk2 := HK0.out.trans HK.out
          have hF2 := own_fresh (v' := s2) hwk2 HF.out (by rw [World.size_alloc]; exact hB2)
          have hK2 := own_grown hwk2 HF.out hG2
          have HN := Lib.hid (show Ir.Own w2 s2 (refsTo k wd mk (m + 1)) ∧ Fresh W2 s2 ∧ Kept [] W2 w2 from ⟨by rw [HE.out]; exact hO2, hF2, hK2⟩)
          clear hO2 hG2 hB2 hK2 hF2 HK HSe HO hwk2
          go_wp2_with fail
          go_roundw
          case rel => exact ⟨m + 1, by omega, by go_num, HN⟩
          case measure => simp [intOf]; omega
      · obtain rfl : m = sl := by omega
        go_wp2_with fail
        go_ret2
        exact ⟨_, rfl, hr.out.1, hk4.out.trans hr.out.2.2⟩
  · unfold typV at *
    simp only [h, if_false] at HL ⊢
    have he : (err k wd mk n != 0) = true := by rw [bne_iff_ne]; exact h
    generalize err k wd mk n = er at *
    go_enter Tryz.func93, Tryz.ntmps93
    go_wp2_with fail
    refine (HL.out _).mono ?_
    rintro e W1 ⟨rfl, hk1⟩
    have hk2 := Lib.hid ((hka w _).trans hk1)
    clear hk1
    go_wp2_with fail
    go_ret2
    exact ⟨_, rfl, Ir.Own.nil _, hk2.out⟩
end Go.Proofs.YtagmmbkgjomdlaaGreatDoor.Kd
