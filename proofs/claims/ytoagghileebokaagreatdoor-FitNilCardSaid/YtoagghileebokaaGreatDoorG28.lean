/-
  Several texts in one: ShDocOf, SpSlots, SpDocSettle, SpSettle.
-/
import Derived.Test.YtoagghileebokaaGreatDoorG12
import Derived.Test.YtoagghileebokaaGreatDoorG09
import Derived.RegionTactic
import Derived.Test.YtoagghileebokaaGreatDoorG34
import Derived.Test.YtoagghileebokaaGreatDoorG26
import Derived.Test.YtoagghileebokaaGreatDoorG08
import Derived.Deep.RegionWith
import Derived.Test.YtoagghileebokaaGreatDoorG31
import Derived.Test.YtoagghileebokaaGreatDoorG27
import Derived.Test.YtoagghileebokaaGreatDoorG24
import Derived.Test.YtoagghileebokaaGreatDoorG25
/-
  The contract of the document's Of.
-/
namespace Go.Proofs.YtoagghileebokaaGreatDoor.Sh
open Go.RowKit Go.Proofs.YtoagghileebokaaGreatDoor.Ar
open Go.Proofs.YtoagghileebokaaGreatDoor.Hd (Hd Fields decE decH isHead headI head_ok fitL ofL dfits_row cells4 free4 put4 put4_has put4_kept size_head)
open Go.Proofs.YtoagghileebokaaGreatDoor.Tb (Ty getT hasT sizeE sizeT errT dget_ok cells3 free3 put3 put3_has put3_kept size_type)
set_option linter.unusedVariables false

theorem results_two {P : Program} {fn : Func} {p r u : Tmp} {ty tz : TypeId} (h : fn.results = #[.cell p ty, .cell r tz, .tmp u]) (tmps : Array Value) (w : World) (g k : Nat) (cs ds : Array Value) (d d' : TypeDesc)
    (hp : tmps.getD p undef = .pointer (some ⟨g, 0, none⟩)) (hr : tmps.getD r undef = .pointer (some ⟨k, 0, none⟩)) (hg : w.heap[g]? = some (.cells cs ty (0, 0))) (hk : w.heap[k]? = some (.cells ds tz (0, 0)))
    (hu : P.underlying ty = some d) (hd : (match d with | .struct _ | .array _ _ => true | _ => false) = true) (hi : (P.info? ty).map (·.size) = some cs.size)
    (hu' : P.underlying tz = some d') (hd' : (match d' with | .struct _ | .array _ _ => true | _ => false) = true) (hi' : (P.info? tz).map (·.size) = some ds.size) :
    (results fn tmps).run P w = .ok (.tuple #[.agg cs, .agg ds, tmps.getD u undef]) w := by
  have hp' : tmps[p]?.getD undef = .pointer (some ⟨g, 0, none⟩) := by simpa using hp
  have hr' : tmps[r]?.getD undef = .pointer (some ⟨k, 0, none⟩) := by simpa using hr
  simp [results, h, hp', hr', asAddr, run_loadVar_row w g ty ty cs (0, 0) d hg hu hd hi, run_loadVar_row w k tz tz ds (0, 0) d' hk hu' hd' hi']
theorem ret_two0 {f : Func} {p r u : Tmp} (h : f.results = #[.cell p 49, .cell r 57, .tmp u]) {a : Act} {X : World} {g k : Nat} {v0 v1 v2 v3 u0 u1 u2 : Value} (hp : a.tmps.getD p undef = .pointer (some ⟨g, 0, none⟩)) (hr : a.tmps.getD r undef = .pointer (some ⟨k, 0, none⟩))
    (hH : Has X g 49 [v0, v1, v2, v3]) (hT : Has X k 57 [u0, u1, u2])
    (hdf : a.defers = []) {E : Value} (hE : a.tmps.getD u undef = E) {R : Ending → World → Prop} (hR : R (.returned (.tuple #[.agg #[v0, v1, v2, v3], .agg #[u0, u1, u2], E])) X) : bodyPost Tryz.prog f R .ret a X := by
  refine bodyPost_ret ?_ hdf hR
  rw [← hE]
  exact results_two h a.tmps X g k #[v0, v1, v2, v3] #[u0, u1, u2] _ _ hp hr hH hT Tryz.underlying49 rfl size_head Tryz.underlying57 rfl size_type
section
variable {f : Func} {p r u : Tmp} {a : Act} {w0 w : World} {g k : Nat} {a0 a1 a2 a3 b0 b1 b2 v0 v1 v2 v3 u0 u1 u2 : Value}
/-- Four stores and three, then both are read. -/
theorem ret_two (h : f.results = #[.cell p 49, .cell r 57, .tmp u]) (hp : a.tmps.getD p undef = .pointer (some ⟨g, 0, none⟩)) (hr : a.tmps.getD r undef = .pointer (some ⟨k, 0, none⟩))
    (hH : Has w g 49 [a0, a1, a2, a3]) (hT : Has w k 57 [b0, b1, b2]) (hgk : g ≠ k) (hk : Kept [] w0 w) (hg : w0.heap.size ≤ g) (hkk : w0.heap.size ≤ k)
    (hdf : a.defers = []) {E : Value} (hE : a.tmps.getD u undef = E) {R : Ending → World → Prop}
    (hR : ∀ X, Kept [] w0 X → R (.returned (.tuple #[.agg #[v0, v1, v2, v3], .agg #[u0, u1, u2], E])) X) : bodyPost Tryz.prog f R .ret a (put3 k u0 u1 u2 (put4 g v0 v1 v2 v3 w)) := by
  have h1 := put4_has hH v0 v1 v2 v3
  have h2 : Has (put4 g v0 v1 v2 v3 w) k 57 [b0, b1, b2] := (((hT.beside _ (Ne.symm hgk) _).beside _ (Ne.symm hgk) _).beside _ (Ne.symm hgk) _).beside _ (Ne.symm hgk) _
  have h3 := put3_has h2 u0 u1 u2
  have h4 : Has (put3 k u0 u1 u2 (put4 g v0 v1 v2 v3 w)) g 49 [v0, v1, v2, v3] := ((h1.beside _ hgk _).beside _ hgk _).beside _ hgk _
  exact ret_two0 h hp hr h4 h3 hdf hE (hR _ (put3_kept (put4_kept hk (.inr hg) _ _ _ _) (.inr hkk) _ _ _))
/-- The same, behind one more draw. -/
theorem ret_twod (h : f.results = #[.cell p 49, .cell r 57, .tmp u]) (hp : a.tmps.getD p undef = .pointer (some ⟨g, 0, none⟩)) (hr : a.tmps.getD r undef = .pointer (some ⟨k, 0, none⟩))
    (hH : Has w g 49 [a0, a1, a2, a3]) (hT : Has w k 57 [b0, b1, b2]) (hgk : g ≠ k) (hk : Kept [] w0 w) (hg : w0.heap.size ≤ g) (hkk : w0.heap.size ≤ k)
    (hdf : a.defers = []) {E : Value} (hE : a.tmps.getD u undef = E) {R : Ending → World → Prop}
    (hR : ∀ X, Kept [] w0 X → R (.returned (.tuple #[.agg #[v0, v1, v2, v3], .agg #[u0, u1, u2], E])) X) : bodyPost Tryz.prog f R .ret a (put3 k u0 u1 u2 (put4 g v0 v1 v2 v3 w)).drew := by
  have h1 := put4_has hH v0 v1 v2 v3
  have h2 : Has (put4 g v0 v1 v2 v3 w) k 57 [b0, b1, b2] := (((hT.beside _ (Ne.symm hgk) _).beside _ (Ne.symm hgk) _).beside _ (Ne.symm hgk) _).beside _ (Ne.symm hgk) _
  have h3 := put3_has h2 u0 u1 u2
  have h4 : Has (put3 k u0 u1 u2 (put4 g v0 v1 v2 v3 w)) g 49 [v0, v1, v2, v3] := ((h1.beside _ hgk _).beside _ hgk _).beside _ hgk _
  exact ret_two0 h hp hr h4.drew h3.drew hdf hE (hR _ (put3_kept (put4_kept hk (.inr hg) _ _ _ _) (.inr hkk) _ _ _).drew)
end
def docH (ws : List Int) (l : List Ty) (g : Int) : Hd := if ofE ws l g = 0 then hdH ws g else Hd.zero
def docT (ws : List Int) (l : List Ty) (g : Int) : Ty := if ofE ws l g = 0 then ofT ws l g else Ty.zero
section
variable {w : World}
set_option maxRecDepth 100000 in
set_option maxHeartbeats 4000000 in
theorem dof_any {A B : Option Addr} {c d : Nat} {ws : List Int} {l : List Ty} (hS : Seen w A ws) (hl : ws.length ≤ 1099511627776) (hW : Wds ws) (hL : Tb.Seen w B l) (hok : ∀ x ∈ l, x.ok ∧ x.fit) (hlen : l.length ≤ 100000) (g : Int) :
    Calls Tryz.prog 112 #[.slice A ws.length c, .slice B l.length d, .int .i64 g] w fun e w' => e = .returned (.tuple #[(docH ws l g).val, (docT ws l g).val, .int .i64 (ofE ws l g)]) ∧ Kept [] w w' := by
  have HH := Lib.hid (fun y (k : Kept [] w y) => dhead_any (c := c) (hS.keep0 k) hl hW g)
  have k0 : Kept [] w ((w.alloc (.cells #[.int .u8 0, .int .i64 0, .int .i64 0, .int .i64 0] 49)).alloc (.cells #[.int .u8 0, .int .i64 0, .int .u64 0] 57)) := ((Kept.refl [] w).alloc _).alloc _
  have r0 : Has ((w.alloc (.cells #[.int .u8 0, .int .i64 0, .int .i64 0, .int .i64 0] 49)).alloc (.cells #[.int .u8 0, .int .i64 0, .int .u64 0] 57)) w.heap.size 49 [.int .u8 0, .int .i64 0, .int .i64 0, .int .i64 0] := (Has.new w 49 [.int .u8 0, .int .i64 0, .int .i64 0, .int .i64 0]).alloc _
  have s0 : Has ((w.alloc (.cells #[.int .u8 0, .int .i64 0, .int .i64 0, .int .i64 0] 49)).alloc (.cells #[.int .u8 0, .int .i64 0, .int .u64 0] 57)) (w.heap.size + 1) 57 [.int .u8 0, .int .i64 0, .int .u64 0] := by
    simpa using Has.new (w.alloc (.cells #[.int .u8 0, .int .i64 0, .int .i64 0, .int .i64 0] 49)) 57 [.int .u8 0, .int .i64 0, .int .u64 0]
  have hgk : w.heap.size ≠ w.heap.size + 1 := by omega
  have hge : w.heap.size ≤ w.heap.size + 1 := by omega
  have K0 := Lib.hid k0
  have R0 := Lib.hid (And.intro r0 (And.intro s0 (And.intro hgk hge)))
  clear k0 r0 s0 hgk hge
  have ed : (ws.length : Int).tdiv 2 = (ws.length : Int) / 2 := Int.tdiv_eq_ediv_of_nonneg (by omega)
  by_cases he : hdE ws g = 0
  · have ok := hdH_ok (g := g) hW
    have hgr : 0 ≤ g ∧ 1 ≤ (ws.length : Int) / 2 - g := by
      cases hx : inG ws.length g 1 with
      | true => exact (inG_iff _ _ _).1 hx
      | false => unfold hdE at he; rw [hx] at he; simp at he
    have HFt := Lib.hid (fun y (k : Kept [] w y) => dfits_row (c := d) (hL.keep0 k) hok hlen (hdH ws g) ok)
    have HG := Lib.hid (fun y (k : Kept [] w y) => dget_ok (c := d) (hL.keep0 k) hlen (hdH ws g).ty ok.t0 ok.t1)
    have hofE : ofE ws l g = if (hdH ws g).tg ≠ 1 ∨ fitL l (hdH ws g) ≠ 0 ∨ inG ws.length g (hdH ws g).sz = false then 8 else 0 := by unfold ofE; rw [if_neg (by simpa using he)]
    have hg : ofT ws l g = getT l (hdH ws g).ty := rfl
    rw [← hg] at HG
    rw [he] at HH
    unfold docH docT
    rw [hofE]
    have hz0 := ok.s0
    have hz1 := ok.s1
    have hin : inG ws.length g (hdH ws g).sz = decide ((hdH ws g).sz ≤ (ws.length : Int) / 2 - g) := by
      unfold inG
      rw [Bool.eq_iff_iff, decide_eq_true_iff, decide_eq_true_iff]
      exact ⟨fun h => h.2, fun h => ⟨hgr.1, h⟩⟩
    rw [hin]
    clear hofE hg he hL hS hW ok hok hin
    generalize hasT l (hdH ws g).ty = hh at *
    generalize hdH ws g = x at *
    generalize ofT ws l g = t at *
    generalize fitL l x = fe at *
    have HN : Hid (∀ y : World, Has (y.alloc (.cells #[.int .u8 x.tg, .int .i64 x.ty, .int .i64 x.ln, .int .i64 x.sz] 49)) y.heap.size 49 [.int .u8 x.tg, .int .i64 x.ty, .int .i64 x.ln, .int .i64 x.sz]) := Lib.hid fun y => Hd.Hd.new y _
    have HTn : Hid (∀ y : World, Has (y.alloc (.cells #[.int .u8 (t.k : Int), .int .i64 t.wd, .int .u64 (t.ms : Int)] 57)) y.heap.size 57 [.int .u8 (t.k : Int), .int .i64 t.wd, .int .u64 (t.ms : Int)]) := Lib.hid fun y => Has.new y _ _
    generalize ws.length = L at *
    unfold Hd.val Ty.val Hd.zero Ty.zero at *
    by_cases h1 : x.tg = 1
    · by_cases h2 : fe = 0
      · subst h2
        by_cases h3 : x.sz ≤ (L : Int) / 2 - g
        · have hcond : ¬ (x.tg ≠ 1 ∨ (0 : Int) ≠ 0 ∨ decide (x.sz ≤ (L : Int) / 2 - g) = false) := by simp [h1, h3]
          simp only [if_neg hcond, if_true]
          clear hcond
          generalize x.tg = xg at *
          subst h1
          generalize x.ty = xt at *
          generalize x.ln = xn at *
          generalize x.sz = xs at *
          go_enter Tryz.func112, Tryz.ntmps112
          go_wp2_with fail
          refine (HH.out _ K0.out).mono ?_
          rintro e x1 ⟨rfl, k1⟩
          have K1 := Lib.hid ((K0.out.trans k1).alloc (.cells #[.int .u8 1, .int .i64 xt, .int .i64 xn, .int .i64 xs] 49))
          have R1 := Lib.hid (And.intro ((R0.out.1.keep0 k1).alloc (.cells #[.int .u8 1, .int .i64 xt, .int .i64 xn, .int .i64 xs] 49)) ((R0.out.2.1.keep0 k1).alloc (.cells #[.int .u8 1, .int .i64 xt, .int .i64 xn, .int .i64 xs] 49)))
          have b1 := HN.out x1
          have hlt : w.heap.size + 1 < x1.heap.size := Nat.lt_of_lt_of_le (R0.out.2.1.lt) k1.more
          have n4 : w.heap.size ≠ x1.heap.size := by omega
          have n5 : w.heap.size + 1 ≠ x1.heap.size := by omega
          have n6 : w.heap.size ≠ w.heap.size + 1 := by omega
          clear hlt
          obtain ⟨c0, c1, c2, c3⟩ := cells4 b1
          have HB1 := Lib.hid b1
          clear k1 b1 HH HN
          go_wp2_with fail
          generalize x1.alloc (.cells #[.int .u8 1, .int .i64 xt, .int .i64 xn, .int .i64 xs] 49) = y1 at *
          generalize x1.heap.size = hb at *
          refine (HFt.out _ K1.out).mono ?_
          rintro e x2 ⟨rfl, k2⟩
          have K2 := Lib.hid (K1.out.trans k2)
          have b2 := HB1.out.keep0 k2
          have HB2 := Lib.hid b2
          have R2 := Lib.hid (And.intro (R1.out.1.keep0 k2) (R1.out.2.keep0 k2))
          clear k2 HFt K1 HB1 c0 c1 c2 c3 R1
          obtain ⟨c0, c1, c2, c3⟩ := cells4 b2
          clear b2
          go_wp2_with fail
          refine (HG.out _ K2.out).mono ?_
          rintro e x3 ⟨rfl, k3⟩
          have K3 := Lib.hid ((K2.out.trans k3).alloc (.cells #[.int .u8 (t.k : Int), .int .i64 t.wd, .int .u64 (t.ms : Int)] 57))
          have b3 := (HB2.out.keep0 k3).alloc (.cells #[.int .u8 (t.k : Int), .int .i64 t.wd, .int .u64 (t.ms : Int)] 57)
          have r3 := (R2.out.1.keep0 k3).alloc (.cells #[.int .u8 (t.k : Int), .int .i64 t.wd, .int .u64 (t.ms : Int)] 57)
          have s3 := (R2.out.2.keep0 k3).alloc (.cells #[.int .u8 (t.k : Int), .int .i64 t.wd, .int .u64 (t.ms : Int)] 57)
          have t3 := HTn.out x3
          have hlt : w.heap.size + 1 < x3.heap.size := Nat.lt_of_lt_of_le (R2.out.2.lt) k3.more
          have n1 : x3.heap.size ≠ w.heap.size := by omega
          have n2 : x3.heap.size ≠ w.heap.size + 1 := by omega
          clear k3 HG K2 HB2 c0 c1 c2 c3 HTn R2 hlt
          obtain ⟨c0, c1, c2, c3⟩ := cells4 b3
          obtain ⟨d0, d1, d2⟩ := cells3 t3
          obtain ⟨f0, f1, f2, f3⟩ := free4 r3
          obtain ⟨g0', g1', g2'⟩ := free3 s3
          obtain ⟨i0, i1, i2, i3⟩ := cells4 r3
          obtain ⟨j0, j1, j2⟩ := cells3 s3
          have HR3 := Lib.hid r3
          have HS3 := Lib.hid s3
          clear b3 t3 r3 s3
          generalize hy3 : x3.alloc (.cells #[.int .u8 (t.k : Int), .int .i64 t.wd, .int .u64 (t.ms : Int)] 57) = y3 at *
          go_wp2_with fail
          go_region
          all_goals go_wp2_with fail
          all_goals exact ret_twod rfl rfl rfl HR3.out HS3.out R0.out.2.2.1 K3.out (Nat.le_refl _) R0.out.2.2.2 rfl rfl fun X hX => ⟨rfl, hX⟩
        · have hcond : (x.tg ≠ 1 ∨ (0 : Int) ≠ 0 ∨ decide (x.sz ≤ (L : Int) / 2 - g) = false) := by simp [h3]
          simp only [if_pos hcond, show ¬ ((8 : Int) = 0) by decide, if_false]
          clear hcond
          generalize x.tg = xg at *
          subst h1
          generalize x.ty = xt at *
          generalize x.ln = xn at *
          generalize x.sz = xs at *
          go_enter Tryz.func112, Tryz.ntmps112
          go_wp2_with fail
          refine (HH.out _ K0.out).mono ?_
          rintro e x1 ⟨rfl, k1⟩
          have K1 := Lib.hid ((K0.out.trans k1).alloc (.cells #[.int .u8 1, .int .i64 xt, .int .i64 xn, .int .i64 xs] 49))
          have R1 := Lib.hid (And.intro ((R0.out.1.keep0 k1).alloc (.cells #[.int .u8 1, .int .i64 xt, .int .i64 xn, .int .i64 xs] 49)) ((R0.out.2.1.keep0 k1).alloc (.cells #[.int .u8 1, .int .i64 xt, .int .i64 xn, .int .i64 xs] 49)))
          have b1 := HN.out x1
          have hlt : w.heap.size + 1 < x1.heap.size := Nat.lt_of_lt_of_le (R0.out.2.1.lt) k1.more
          have n4 : w.heap.size ≠ x1.heap.size := by omega
          have n5 : w.heap.size + 1 ≠ x1.heap.size := by omega
          have n6 : w.heap.size ≠ w.heap.size + 1 := by omega
          clear hlt
          obtain ⟨c0, c1, c2, c3⟩ := cells4 b1
          have HB1 := Lib.hid b1
          clear k1 b1 HH HN
          go_wp2_with fail
          generalize x1.alloc (.cells #[.int .u8 1, .int .i64 xt, .int .i64 xn, .int .i64 xs] 49) = y1 at *
          generalize x1.heap.size = hb at *
          refine (HFt.out _ K1.out).mono ?_
          rintro e x2 ⟨rfl, k2⟩
          have K2 := Lib.hid (K1.out.trans k2)
          have b2 := HB1.out.keep0 k2
          have HB2 := Lib.hid b2
          have R2 := Lib.hid (And.intro (R1.out.1.keep0 k2) (R1.out.2.keep0 k2))
          clear k2 HFt K1 HB1 c0 c1 c2 c3 R1
          obtain ⟨c0, c1, c2, c3⟩ := cells4 b2
          clear b2
          obtain ⟨f0, f1, f2, f3⟩ := free4 R2.out.1
          obtain ⟨g0', g1', g2'⟩ := free3 R2.out.2
          obtain ⟨i0, i1, i2, i3⟩ := cells4 R2.out.1
          obtain ⟨j0, j1, j2⟩ := cells3 R2.out.2
          go_wp2_with fail
          exact ret_two rfl rfl rfl R2.out.1 R2.out.2 R0.out.2.2.1 K2.out (Nat.le_refl _) R0.out.2.2.2 rfl rfl fun X hX => ⟨rfl, hX⟩
      · have hcond : (x.tg ≠ 1 ∨ fe ≠ 0 ∨ decide (x.sz ≤ (L : Int) / 2 - g) = false) := .inr (.inl h2)
        simp only [if_pos hcond, show ¬ ((8 : Int) = 0) by decide, if_false]
        clear hcond
        have hb2 : (fe != 0) = true := by rw [bne_iff_ne]; exact h2
        generalize x.tg = xg at *
        subst h1
        generalize x.ty = xt at *
        generalize x.ln = xn at *
        generalize x.sz = xs at *
        go_enter Tryz.func112, Tryz.ntmps112
        go_wp2_with fail
        refine (HH.out _ K0.out).mono ?_
        rintro e x1 ⟨rfl, k1⟩
        have K1 := Lib.hid ((K0.out.trans k1).alloc (.cells #[.int .u8 1, .int .i64 xt, .int .i64 xn, .int .i64 xs] 49))
        have R1 := Lib.hid (And.intro ((R0.out.1.keep0 k1).alloc (.cells #[.int .u8 1, .int .i64 xt, .int .i64 xn, .int .i64 xs] 49)) ((R0.out.2.1.keep0 k1).alloc (.cells #[.int .u8 1, .int .i64 xt, .int .i64 xn, .int .i64 xs] 49)))
        have b1 := HN.out x1
        have hlt : w.heap.size + 1 < x1.heap.size := Nat.lt_of_lt_of_le (R0.out.2.1.lt) k1.more
        have n4 : w.heap.size ≠ x1.heap.size := by omega
        have n5 : w.heap.size + 1 ≠ x1.heap.size := by omega
        have n6 : w.heap.size ≠ w.heap.size + 1 := by omega
        clear hlt
        obtain ⟨c0, c1, c2, c3⟩ := cells4 b1
        have HB1 := Lib.hid b1
        clear k1 b1 HH HN
        go_wp2_with fail
        generalize x1.alloc (.cells #[.int .u8 1, .int .i64 xt, .int .i64 xn, .int .i64 xs] 49) = y1 at *
        generalize x1.heap.size = hb at *
        refine (HFt.out _ K1.out).mono ?_
        rintro e x2 ⟨rfl, k2⟩
        have K2 := Lib.hid (K1.out.trans k2)
        have b2 := HB1.out.keep0 k2
        have HB2 := Lib.hid b2
        have R2 := Lib.hid (And.intro (R1.out.1.keep0 k2) (R1.out.2.keep0 k2))
        clear k2 HFt K1 HB1 c0 c1 c2 c3 R1
        obtain ⟨c0, c1, c2, c3⟩ := cells4 b2
        clear b2
        obtain ⟨f0, f1, f2, f3⟩ := free4 R2.out.1
        obtain ⟨g0', g1', g2'⟩ := free3 R2.out.2
        obtain ⟨i0, i1, i2, i3⟩ := cells4 R2.out.1
        obtain ⟨j0, j1, j2⟩ := cells3 R2.out.2
        go_wp2_with fail
        exact ret_two rfl rfl rfl R2.out.1 R2.out.2 R0.out.2.2.1 K2.out (Nat.le_refl _) R0.out.2.2.2 rfl rfl fun X hX => ⟨rfl, hX⟩
    · have hcond : (x.tg ≠ 1 ∨ fe ≠ 0 ∨ decide (x.sz ≤ (L : Int) / 2 - g) = false) := .inl h1
      simp only [if_pos hcond, show ¬ ((8 : Int) = 0) by decide, if_false]
      clear hcond
      have hb1 : (x.tg != 1) = true := by rw [bne_iff_ne]; exact h1
      generalize x.tg = xg at *
      generalize x.ty = xt at *
      generalize x.ln = xn at *
      generalize x.sz = xs at *
      go_enter Tryz.func112, Tryz.ntmps112
      go_wp2_with fail
      refine (HH.out _ K0.out).mono ?_
      rintro e x1 ⟨rfl, k1⟩
      have K1 := Lib.hid ((K0.out.trans k1).alloc (.cells #[.int .u8 xg, .int .i64 xt, .int .i64 xn, .int .i64 xs] 49))
      have R1 := Lib.hid (And.intro ((R0.out.1.keep0 k1).alloc (.cells #[.int .u8 xg, .int .i64 xt, .int .i64 xn, .int .i64 xs] 49)) ((R0.out.2.1.keep0 k1).alloc (.cells #[.int .u8 xg, .int .i64 xt, .int .i64 xn, .int .i64 xs] 49)))
      have b1 := HN.out x1
      have hlt : w.heap.size + 1 < x1.heap.size := Nat.lt_of_lt_of_le (R0.out.2.1.lt) k1.more
      have n4 : w.heap.size ≠ x1.heap.size := by omega
      have n5 : w.heap.size + 1 ≠ x1.heap.size := by omega
      have n6 : w.heap.size ≠ w.heap.size + 1 := by omega
      clear hlt
      obtain ⟨c0, c1, c2, c3⟩ := cells4 b1
      have HB1 := Lib.hid b1
      clear k1 b1 HH HN
      obtain ⟨f0, f1, f2, f3⟩ := free4 R1.out.1
      obtain ⟨g0', g1', g2'⟩ := free3 R1.out.2
      obtain ⟨i0, i1, i2, i3⟩ := cells4 R1.out.1
      obtain ⟨j0, j1, j2⟩ := cells3 R1.out.2
      go_wp2_with fail
      exact ret_two rfl rfl rfl R1.out.1 R1.out.2 R0.out.2.2.1 K1.out (Nat.le_refl _) R0.out.2.2.2 rfl rfl fun X hX => ⟨rfl, hX⟩
  · have hofE : ofE ws l g = hdE ws g := by unfold ofE; rw [if_pos he]
    have hz : docH ws l g = Hd.zero ∧ docT ws l g = Ty.zero := ⟨by unfold docH; rw [if_neg (by rw [hofE]; exact he)], by unfold docT; rw [if_neg (by rw [hofE]; exact he)]⟩
    rw [hofE, hz.1, hz.2]
    have hb1 : (hdE ws g != 0) = true := by rw [bne_iff_ne]; exact he
    clear hofE hz hL hS hW hok
    generalize hdE ws g = er at *
    generalize hdH ws g = x at *
    generalize ws.length = L at *
    unfold Hd.val Ty.val Hd.zero Ty.zero at *
    generalize x.tg = xg at *
    generalize x.ty = xt at *
    generalize x.ln = xn at *
    generalize x.sz = xs at *
    go_enter Tryz.func112, Tryz.ntmps112
    go_wp2_with fail
    refine (HH.out _ K0.out).mono ?_
    rintro e x1 ⟨rfl, k1⟩
    have K1 := Lib.hid ((K0.out.trans k1).alloc (.cells #[.int .u8 xg, .int .i64 xt, .int .i64 xn, .int .i64 xs] 49))
    have R1 := Lib.hid (And.intro ((R0.out.1.keep0 k1).alloc (.cells #[.int .u8 xg, .int .i64 xt, .int .i64 xn, .int .i64 xs] 49)) ((R0.out.2.1.keep0 k1).alloc (.cells #[.int .u8 xg, .int .i64 xt, .int .i64 xn, .int .i64 xs] 49)))
    have hlt : w.heap.size + 1 < x1.heap.size := Nat.lt_of_lt_of_le (R0.out.2.1.lt) k1.more
    have n4 : w.heap.size ≠ x1.heap.size := by omega
    have n5 : w.heap.size + 1 ≠ x1.heap.size := by omega
    have n6 : w.heap.size ≠ w.heap.size + 1 := by omega
    clear k1 HH hlt
    obtain ⟨f0, f1, f2, f3⟩ := free4 R1.out.1
    obtain ⟨g0', g1', g2'⟩ := free3 R1.out.2
    obtain ⟨i0, i1, i2, i3⟩ := cells4 R1.out.1
    obtain ⟨j0, j1, j2⟩ := cells3 R1.out.2
    go_wp2_with fail
    exact ret_two rfl rfl rfl R1.out.1 R1.out.2 R0.out.2.2.1 K1.out (Nat.le_refl _) R0.out.2.2.2 rfl rfl fun X hX => ⟨rfl, hX⟩
end
end Go.Proofs.YtoagghileebokaaGreatDoor.Sh

/-
  The contract of the law's slots: how many the object has that begins at a granule.
-/
namespace Go.Proofs.YtoagghileebokaaGreatDoor.Sp
open Go.RowKit Go.Proofs.YtoagghileebokaaGreatDoor.Ar Go.Proofs.YtoagghileebokaaGreatDoor.Sh
open Go.Proofs.YtoagghileebokaaGreatDoor.Hd (Hd Fields cells4 free4 fitL)
open Go.Proofs.YtoagghileebokaaGreatDoor.Tb (Ty cells3)
open Go.Proofs.YtoagghileebokaaGreatDoor.Kd (typV)
set_option linter.unusedVariables false
/-- How many slots the object at a granule has. -/
def slotsV (ws : List Int) (l : List Ty) (cs : List Cel) (g : Int) : Int := if (objAt [] cs g).isSome then ofS ws l g else 0
/-- The two boxes of 'h, t, e := Of(..)', laid ahead of the call. -/
theorem box_h {w z : World} (k : Kept [] (w.alloc (.cells #[.int .u8 0, .int .i64 0, .int .i64 0, .int .i64 0] 49)).drew z) : Has z w.heap.size 49 [.int .u8 0, .int .i64 0, .int .i64 0, .int .i64 0] ∧ w.heap.size < z.heap.size :=
  have h : Has z w.heap.size 49 [.int .u8 0, .int .i64 0, .int .i64 0, .int .i64 0] := (Has.new w 49 [.int .u8 0, .int .i64 0, .int .i64 0, .int .i64 0]).drew.keep0 k
  ⟨h, h.lt⟩
theorem box_t {w z : World} (k : Kept [] (w.alloc (.cells #[.int .u8 0, .int .i64 0, .int .u64 0] 57)).drew z) : Has z w.heap.size 57 [.int .u8 0, .int .i64 0, .int .u64 0] ∧ w.heap.size < z.heap.size :=
  have h : Has z w.heap.size 57 [.int .u8 0, .int .i64 0, .int .u64 0] := (Has.new w 57 [.int .u8 0, .int .i64 0, .int .u64 0]).drew.keep0 k
  ⟨h, h.lt⟩
theorem box_ht {w z : World} (k : Kept [] ((w.alloc (.cells #[.int .u8 0, .int .i64 0, .int .i64 0, .int .i64 0] 49)).alloc (.cells #[.int .u8 0, .int .i64 0, .int .u64 0] 57)).drew z) :
    Has z w.heap.size 49 [.int .u8 0, .int .i64 0, .int .i64 0, .int .i64 0] ∧ Has z (w.heap.size + 1) 57 [.int .u8 0, .int .i64 0, .int .u64 0] := by
  have h1 := Has.new (w.alloc (.cells #[.int .u8 0, .int .i64 0, .int .i64 0, .int .i64 0] 49)) 57 [.int .u8 0, .int .i64 0, .int .u64 0]
  rw [World.size_alloc] at h1
  exact ⟨((Has.new w 49 [.int .u8 0, .int .i64 0, .int .i64 0, .int .i64 0]).alloc _).drew.keep0 k, h1.drew.keep0 k⟩
theorem box_th {w z : World} (k : Kept [] ((w.alloc (.cells #[.int .u8 0, .int .i64 0, .int .u64 0] 57)).alloc (.cells #[.int .u8 0, .int .i64 0, .int .i64 0, .int .i64 0] 49)).drew z) :
    Has z w.heap.size 57 [.int .u8 0, .int .i64 0, .int .u64 0] ∧ Has z (w.heap.size + 1) 49 [.int .u8 0, .int .i64 0, .int .i64 0, .int .i64 0] := by
  have h1 := Has.new (w.alloc (.cells #[.int .u8 0, .int .i64 0, .int .u64 0] 57)) 49 [.int .u8 0, .int .i64 0, .int .i64 0, .int .i64 0]
  rw [World.size_alloc] at h1
  exact ⟨((Has.new w 57 [.int .u8 0, .int .i64 0, .int .u64 0]).alloc _).drew.keep0 k, h1.drew.keep0 k⟩
/-- The two boxes behind the call: a header's and a type's. -/
def Two (x w : World) (b1 b2 : Nat) (V U : List Value) : Prop := Has w b1 49 V ∧ Has w b2 57 U ∧ Kept [] x w
section
variable {x z : World} {v0 v1 v2 v3 u0 u1 u2 : Value}
theorem two1 (k : Kept [] x.drew z) : Two x ((z.alloc (.cells #[v0, v1, v2, v3] 49)).alloc (.cells #[u0, u1, u2] 57)) z.heap.size (z.heap.size + 1) [v0, v1, v2, v3] [u0, u1, u2] := by
  have h1 := Has.new (z.alloc (.cells #[v0, v1, v2, v3] 49)) 57 [u0, u1, u2]
  rw [World.size_alloc] at h1
  exact ⟨(Has.new z 49 [v0, v1, v2, v3]).alloc _, h1, (((Kept.refl [] x).drew.trans k).alloc _).alloc _⟩
theorem two2 (k : Kept [] x.drew z) : Two x ((z.alloc (.cells #[u0, u1, u2] 57)).alloc (.cells #[v0, v1, v2, v3] 49)) (z.heap.size + 1) z.heap.size [v0, v1, v2, v3] [u0, u1, u2] := by
  have h1 := Has.new (z.alloc (.cells #[u0, u1, u2] 57)) 49 [v0, v1, v2, v3]
  rw [World.size_alloc] at h1
  exact ⟨h1, (Has.new z 57 [u0, u1, u2]).alloc _, (((Kept.refl [] x).drew.trans k).alloc _).alloc _⟩
theorem two3 {o : Obj} {cs : List Value} (hl : cs.length = 4) (h : Has z x.heap.size 49 cs) (k : Kept [] (x.alloc o).drew z) : Two x ((((((z.setCell ⟨x.heap.size, 0, none⟩ v0).setCell ⟨x.heap.size, 1, none⟩ v1).setCell ⟨x.heap.size, 2, none⟩ v2).setCell ⟨x.heap.size, 3, none⟩ v3)).alloc (.cells #[u0, u1, u2] 57)) x.heap.size z.heap.size [v0, v1, v2, v3] [u0, u1, u2] := by
  match cs, hl with
  | [a0, a1, a2, a3], _ =>
    have h1 := Has.new ((((z.setCell ⟨x.heap.size, 0, none⟩ v0).setCell ⟨x.heap.size, 1, none⟩ v1).setCell ⟨x.heap.size, 2, none⟩ v2).setCell ⟨x.heap.size, 3, none⟩ v3) 57 [u0, u1, u2]
    simp only [World.size_setCell] at h1
    exact ⟨(Hd.put4_has h v0 v1 v2 v3).alloc _, h1, (Hd.put4_kept (((Kept.refl [] x).alloc o).drew.trans k) (.inr (Nat.le_refl _)) v0 v1 v2 v3).alloc _⟩
theorem two4 {o p : Obj} {cs ds : List Value} (hl : cs.length = 4) (hm : ds.length = 3) (h : Has z x.heap.size 49 cs) (t : Has z (x.heap.size + 1) 57 ds) (k : Kept [] ((x.alloc o).alloc p).drew z) :
    Two x (((((((z.setCell ⟨x.heap.size, 0, none⟩ v0).setCell ⟨x.heap.size, 1, none⟩ v1).setCell ⟨x.heap.size, 2, none⟩ v2).setCell ⟨x.heap.size, 3, none⟩ v3).setCell ⟨x.heap.size + 1, 0, none⟩ u0).setCell ⟨x.heap.size + 1, 1, none⟩ u1).setCell ⟨x.heap.size + 1, 2, none⟩ u2) x.heap.size (x.heap.size + 1) [v0, v1, v2, v3] [u0, u1, u2] := by
  match cs, hl, ds, hm with
  | [a0, a1, a2, a3], _, [b0, b1, b2], _ =>
    have n1 : x.heap.size ≠ x.heap.size + 1 := by omega
    have h1 := Hd.put4_has h v0 v1 v2 v3
    have h2 : Has (Hd.put4 x.heap.size v0 v1 v2 v3 z) (x.heap.size + 1) 57 [b0, b1, b2] := (((t.beside _ n1.symm _).beside _ n1.symm _).beside _ n1.symm _).beside _ n1.symm _
    have h3 := Tb.put3_has h2 u0 u1 u2
    have h4 : Has (Tb.put3 (x.heap.size + 1) u0 u1 u2 (Hd.put4 x.heap.size v0 v1 v2 v3 z)) x.heap.size 49 [v0, v1, v2, v3] := ((h1.beside _ n1 _).beside _ n1 _).beside _ n1 _
    exact ⟨h4, h3, Tb.put3_kept (Hd.put4_kept ((((Kept.refl [] x).alloc o).alloc p).drew.trans k) (.inr (Nat.le_refl _)) v0 v1 v2 v3) (.inr (Nat.le_succ _)) u0 u1 u2⟩
theorem two5 {o : Obj} {ds : List Value} (hm : ds.length = 3) (t : Has z x.heap.size 57 ds) (k : Kept [] (x.alloc o).drew z) : Two x ((((z.setCell ⟨x.heap.size, 0, none⟩ u0).setCell ⟨x.heap.size, 1, none⟩ u1).setCell ⟨x.heap.size, 2, none⟩ u2).alloc (.cells #[v0, v1, v2, v3] 49)) z.heap.size x.heap.size [v0, v1, v2, v3] [u0, u1, u2] := by
  match ds, hm with
  | [b0, b1, b2], _ =>
    have h1 := Has.new (((z.setCell ⟨x.heap.size, 0, none⟩ u0).setCell ⟨x.heap.size, 1, none⟩ u1).setCell ⟨x.heap.size, 2, none⟩ u2) 49 [v0, v1, v2, v3]
    simp only [World.size_setCell] at h1
    exact ⟨h1, (Tb.put3_has t u0 u1 u2).alloc _, (Tb.put3_kept (((Kept.refl [] x).alloc o).drew.trans k) (.inr (Nat.le_refl _)) u0 u1 u2).alloc _⟩
theorem two6 {o p : Obj} {cs ds : List Value} (hl : cs.length = 4) (hm : ds.length = 3) (h : Has z (x.heap.size + 1) 49 cs) (t : Has z x.heap.size 57 ds) (k : Kept [] ((x.alloc o).alloc p).drew z) :
    Two x (((((((z.setCell ⟨x.heap.size + 1, 0, none⟩ v0).setCell ⟨x.heap.size + 1, 1, none⟩ v1).setCell ⟨x.heap.size + 1, 2, none⟩ v2).setCell ⟨x.heap.size + 1, 3, none⟩ v3).setCell ⟨x.heap.size, 0, none⟩ u0).setCell ⟨x.heap.size, 1, none⟩ u1).setCell ⟨x.heap.size, 2, none⟩ u2) (x.heap.size + 1) x.heap.size [v0, v1, v2, v3] [u0, u1, u2] := by
  match cs, hl, ds, hm with
  | [a0, a1, a2, a3], _, [b0, b1, b2], _ =>
    have n1 : x.heap.size + 1 ≠ x.heap.size := by omega
    have h1 := Hd.put4_has h v0 v1 v2 v3
    have h2 : Has (Hd.put4 (x.heap.size + 1) v0 v1 v2 v3 z) x.heap.size 57 [b0, b1, b2] := (((t.beside _ n1.symm _).beside _ n1.symm _).beside _ n1.symm _).beside _ n1.symm _
    have h3 := Tb.put3_has h2 u0 u1 u2
    have h4 : Has (Tb.put3 x.heap.size u0 u1 u2 (Hd.put4 (x.heap.size + 1) v0 v1 v2 v3 z)) (x.heap.size + 1) 49 [v0, v1, v2, v3] := ((h1.beside _ n1 _).beside _ n1 _).beside _ n1 _
    exact ⟨h4, h3, Tb.put3_kept (Hd.put4_kept ((((Kept.refl [] x).alloc o).alloc p).drew.trans k) (.inr (Nat.le_succ _)) v0 v1 v2 v3) (.inr (Nat.le_refl _)) u0 u1 u2⟩
end
section
variable {x : World} {r q cap : Nat} {B : Option Addr} {d : Nat} {l : List Ty} {ws : List Int} {cs : List Cel}
/-- The document's Of, asked of the document's space. -/
theorem sof_ok (h : DSp x r q cap B d l ws) (hf : Fit x B l ws cs) (g : Int) : Calls Tryz.prog 112 #[.slice (some ⟨q, 0, none⟩) ws.length cap, .slice B l.length d, .int .i64 g] x fun e w' => e = .returned (.tuple #[(docH ws l g).val, (docT ws l g).val, .int .i64 (ofE ws l g)]) ∧ Kept [] x w' :=
  dof_any h.row.seen (by have := hf.short; omega) (wds_of hf.wm) hf.types hf.ok (by have := hf.few; omega) g
set_option maxRecDepth 100000 in
set_option maxHeartbeats 4000000 in
theorem slots_ok (h : DSp x r q cap B d l ws) (hf : Fit x B l ws cs) (g : Int) :
    Calls Tryz.prog 80 #[.pointer (some ⟨r, 0, none⟩), .int .i64 g] x fun e y => e = .returned (.int .i64 (slotsV ws l cs g)) ∧ Kept [] x y := by
  have hmost := hf.most
  have HAl := Lib.hid (all_ok h hf)
  have HAt := Lib.hid (fun (j : Nat) (hj : j < cs.length) => objAt_at (g := g) hj hf.tiled)
  have HNo := Lib.hid (fun (hn : ∀ c ∈ cs, c.h.tg = 1 → c.a ≠ g) => objAt_none (A := []) hn)
  have HOb : Hid (∀ c ∈ cs, c.a = g → c.h.tg = 1 → ofE ws l g = 0 ∧ hdH ws g = c.h) := Lib.hid fun c hc ha ht => by
    have := obj_of hf.tiled (Int.le_refl _) (Int.le_refl _) hc ht
    rwa [ha] at this
  have HOf := Lib.hid (fun y (k : Kept [] x y) => sof_ok (h.keep0 k) (hf.keep0 k) g)
  have HFa := Lib.hid (fun (he : ofE ws l g = 0) => facts_all hf.ok he)
  have HSl := Lib.hid (fun (y : World) (t : Ty) (n : Int) (hm : t.ms < 18446744073709551616) => Kd.slotsDoc_ok t.k t.wd t.ms n hm y)
  have HD := Lib.hid h
  clear h hf
  go_enter Tryz.func80, Tryz.ntmps80
  go_wp2_with fail
  refine HAl.out.mono ?_
  rintro e x2 ⟨v, rfl, hO, hV, k2⟩
  obtain ⟨Av, cv, rfl, _⟩ := back_own (Kept.refl [] _) hO
  have HSn := Lib.hid hO.seen
  have K2 := Lib.hid k2
  have H0 : Hid (∀ c ∈ cs.take 0, c.h.tg = 1 → c.a ≠ g) := Lib.hid (by simp)
  clear hO hV k2 HAl
  go_wp2_with fail
  go_loop [6] (fun t => ∃ j : Nat, t = .int .i64 (j : Int) ∧ j ≤ cs.length ∧ Hid (∀ c ∈ cs.take j, c.h.tg = 1 → c.a ≠ g)) (fun t => cs.length - (intOf t).toNat)
  case atStart => exact ⟨0, rfl, Nat.zero_le _, H0⟩
  case round =>
    obtain ⟨j, rfl, hj, hr⟩ := hrel
    clear H0
    by_cases hlt : j < cs.length
    · obtain ⟨g9, o9, rfl, hg9, c0, c1, c2, c3, c4⟩ := HSn.out.at j hlt _ rfl
      have hxm := cel_mem hlt
      have htk := cel_take hlt
      have hat := HAt.out j hlt
      have hob := HOb.out _ hxm
      obtain ⟨c, hx⟩ : ∃ c, c = cs.getD j Cel.zero := ⟨_, rfl⟩
      rw [← hx] at hxm htk hat hob c0 c1 c2 c3 c4
      have HX := Lib.hid hx
      clear hx
      by_cases hyes : c.a = g ∧ c.h.tg = 1
      · obtain ⟨ha, ht⟩ := hyes
        obtain ⟨o1, _⟩ := hat ha ht
        obtain ⟨b1, b2⟩ := hob ha ht
        obtain ⟨gn, sl, F⟩ := HFa.out b1
        have hsv : slotsV ws l cs g = ofS ws l g := by unfold slotsV; rw [o1]; rfl
        have HE := Lib.hid hsv
        have hdt : docT ws l g = ofT ws l g := by unfold docT; rw [if_pos b1]
        have hdh : docH ws l g = c.h := by unfold docH; rw [if_pos b1]; exact b2
        have HO1 := Lib.hid (fun y (k : Kept [] x y) => HOf.out y k)
        rw [hdt, hdh, b1] at HO1
        have HS1 := Lib.hid (fun y => HSl.out y (ofT ws l g) c.h.ln F.ms)
        have hsr : Kd.slotsR (ofT ws l g).k (ofT ws l g).wd (ofT ws l g).ms c.h.ln = ofS ws l g := by unfold ofS; rw [b2]
        have her : Kd.err (ofT ws l g).k (ofT ws l g).wd (ofT ws l g).ms c.h.ln = 0 := by have := F.err; rwa [b2] at this
        rw [hsr, her] at HS1
        clear hr htk hxm hat hob o1 b1 b2 F hsv hdt hdh hsr her HOf HSl HFa HOb HNo HAt
        generalize ofS ws l g = sv at *
        generalize ofT ws l g = t at *
        obtain ⟨tk, tw, tm⟩ := t
        obtain ⟨xa, ⟨xt, xy, xl, xz⟩⟩ := c
        unfold Hd.val Tb.Ty.val at HO1
        unfold typV at HS1
        simp only at *
        subst ha ht
        obtain ⟨d0, d1, f0⟩ := (HD.out.keep0 K2.out).cells
        have HO2 : Hid (∀ y, Kept [] x2 y → Calls Tryz.prog 112 #[.slice (some ⟨q, 0, none⟩) ws.length cap, .slice B l.length d, .int .i64 xa] y fun e z => e = .returned (.tuple #[.agg #[.int .u8 1, .int .i64 xy, .int .i64 xl, .int .i64 xz], .agg #[.int .u8 (tk : Int), .int .i64 tw, .int .u64 (tm : Int)], .int .i64 0]) ∧ Kept [] y z ∧ z.cell? ⟨r, 0, none⟩ = some (.slice (some ⟨q, 0, none⟩) ws.length cap) ∧ z.cell? ⟨r, 1, none⟩ = some (.slice B l.length d)) :=
          Lib.hid fun y k => (HO1.out y (K2.out.trans k)).mono fun e z ⟨he, hk⟩ => ⟨he, hk, (HD.out.keep0 ((K2.out.trans k).trans hk)).cells.1, (HD.out.keep0 ((K2.out.trans k).trans hk)).cells.2.1⟩
        have hx0 : Kept [] x2 x2 := Kept.refl _ _
        have hrl : r < x2.heap.size := (HD.out.keep0 K2.out).head.lt
        have n1 : x2.heap.size ≠ r := by omega
        have n2 : x2.heap.size + 1 ≠ r := by omega
        clear hrl
        go_upto_region 6 with fail
        go_cut [7, 8] (fun a b wx => ∃ b1 b2, a = .pointer (some ⟨b1, 0, none⟩) ∧ b = .pointer (some ⟨b2, 0, none⟩) ∧ Hid (Two x2 wx b1 b2 [.int .u8 1, .int .i64 xy, .int .i64 xl, .int .i64 xz] [.int .u8 (tk : Int), .int .i64 tw, .int .u64 (tm : Int)]))
        case first =>
          go_region_held3 (fun y => y.cell? ⟨r, 0, none⟩ = some (.slice (some ⟨q, 0, none⟩) ws.length cap) ∧ y.cell? ⟨r, 1, none⟩ = some (.slice B l.length d)) (go_keep)
            (first | (go_at_call 112; refine (HO2.out _ (by first | exact hx0.drew | exact (hx0.alloc _).drew | exact ((hx0.alloc _).alloc _).drew)).mono ?_; rintro e z1 ⟨rfl, hz1, r0, r1⟩; have n3 : z1.heap.size ≠ r := Nat.ne_of_gt (World.block_lt_of_cell? z1 _ r0); have n4 : z1.heap.size + 1 ≠ r := Nat.ne_of_gt (Nat.lt_succ_of_lt (World.block_lt_of_cell? z1 _ r0)); (first | (obtain ⟨hh, ht⟩ := box_ht hz1; obtain ⟨i0, i1, i2, i3⟩ := cells4 hh; obtain ⟨j0, j1, j2⟩ := cells3 ht; obtain ⟨fi0, fi1, fi2, fi3⟩ := free4 hh; obtain ⟨fj0, fj1, fj2⟩ := Tb.free3 ht; have kht := Lib.hid (And.intro hh (And.intro ht hz1)); clear hh ht hz1) | (obtain ⟨ht, hh⟩ := box_th hz1; obtain ⟨i0, i1, i2, i3⟩ := cells4 hh; obtain ⟨j0, j1, j2⟩ := cells3 ht; obtain ⟨fi0, fi1, fi2, fi3⟩ := free4 hh; obtain ⟨fj0, fj1, fj2⟩ := Tb.free3 ht; have kth := Lib.hid (And.intro hh (And.intro ht hz1)); clear hh ht hz1) | (obtain ⟨hh, hlt9⟩ := box_h hz1; obtain ⟨i0, i1, i2, i3⟩ := cells4 hh; obtain ⟨fi0, fi1, fi2, fi3⟩ := free4 hh; have kh := Lib.hid (And.intro hh hz1); clear hh hz1) | (obtain ⟨ht, hlt9⟩ := box_t hz1; obtain ⟨j0, j1, j2⟩ := cells3 ht; obtain ⟨fj0, fj1, fj2⟩ := Tb.free3 ht; have kt := Lib.hid (And.intro ht hz1); clear ht hz1) | (have k0 := Lib.hid hz1; clear hz1))))
          all_goals
            clear r0 r1 n3 n4
            go_wp2_with fail
            go_meet
            case rel =>
              first
              | with_reducible exact ⟨_, _, rfl, rfl, Lib.hid (two4 rfl rfl kht.out.1 kht.out.2.1 kht.out.2.2)⟩
              | with_reducible exact ⟨_, _, rfl, rfl, Lib.hid (two6 rfl rfl kth.out.1 kth.out.2.1 kth.out.2.2)⟩
              | with_reducible exact ⟨_, _, rfl, rfl, Lib.hid (two3 rfl kh.out.1 kh.out.2)⟩
              | with_reducible exact ⟨_, _, rfl, rfl, Lib.hid (two5 rfl kt.out.1 kt.out.2)⟩
              | with_reducible exact ⟨_, _, rfl, rfl, Lib.hid (two1 k0.out)⟩
              | with_reducible exact ⟨_, _, rfl, rfl, Lib.hid (two2 k0.out)⟩
        case rest =>
          obtain ⟨b1, b2, rfl, rfl, hcc⟩ := hcut
          obtain ⟨hb1, hb2, hk3⟩ := hcc.out
          obtain ⟨j0, j1, j2⟩ := cells3 hb2
          obtain ⟨g8, o8, e8, _, m0, m1, m2, m3, m4⟩ := (HSn.out.keep0 hk3).at j hlt _ HX.out
          injection e8 with e8
          injection e8 with e8 e9
          subst e8 e9
          have HS2 : Hid (∀ y, Kept [] wc y → Calls Tryz.prog 113 #[.agg #[.int .u8 (tk : Int), .int .i64 tw, .int .u64 (tm : Int)], .int .i64 xl] y fun e z => e = .returned (.tuple #[.int .i64 sv, .int .i64 0]) ∧ Kept [] wc z ∧ z.cell? ⟨b2, 0, none⟩ = some (.int .u8 (tk : Int)) ∧ z.cell? ⟨b2, 1, none⟩ = some (.int .i64 tw) ∧ z.cell? ⟨b2, 2, none⟩ = some (.int .u64 (tm : Int)) ∧ z.cell? ⟨g9, o9 + j * 5 + 3, none⟩ = some (.int .i64 xl)) :=
            Lib.hid fun y k => (HS1.out y).mono fun e z ⟨he, hk⟩ => by
              have kz := k.trans hk
              obtain ⟨i0, i1, i2⟩ := cells3 (hb2.keep0 kz)
              refine ⟨he, kz, i0, i1, i2, ?_⟩
              obtain ⟨g8, o8, e8, _, m0, m1, m2, m3, m4⟩ := (HSn.out.keep0 (hk3.trans kz)).at j hlt _ HX.out
              injection e8 with e8
              injection e8 with e8 e9
              subst e8 e9
              exact m3
          have hw0 : Kept [] wc wc := Kept.refl _ _
          have HK3 := Lib.hid (K2.out.trans hk3)
          clear hcc hb1 hb2 hk3 m0 m1 m2 m4 HS1 c0 c1 c2 c3 c4 d0 d1 f0
          go_wp2_with fail
          go_region_held3 (fun y => y.cell? ⟨b2, 0, none⟩ = some (.int .u8 (tk : Int)) ∧ y.cell? ⟨b2, 1, none⟩ = some (.int .i64 tw) ∧ y.cell? ⟨b2, 2, none⟩ = some (.int .u64 (tm : Int)) ∧ y.cell? ⟨g9, o9 + j * 5 + 3, none⟩ = some (.int .i64 xl)) (go_keep)
            (first
              | (go_at_call 113; refine (HS2.out _ (by first | exact hw0.drew | exact hw0 | exact hw0.drewN _)).mono ?_; rintro e z2 ⟨rfl, hz2, r0, r1, r2, r3⟩))
          all_goals
            have HKz := Lib.hid (HK3.out.trans hz2)
            clear r0 r1 r2 r3 hz2 j0 j1 j2 m3
            go_wp2_with fail
            go_ret
            exact ⟨ret_int HE.out.symm, HKz.out⟩
      · have HN : Hid (∀ c ∈ cs.take (j + 1), c.h.tg = 1 → c.a ≠ g) := Lib.hid fun e he => by
          rw [htk] at he
          rcases List.mem_append.1 he with he | he
          · exact hr.out e he
          · rw [List.mem_singleton.1 he]
            exact fun h1 h2 => hyes ⟨h2, h1⟩
        clear hr htk HOf HSl HFa HOb HNo HAt hxm hat hob
        obtain ⟨xa, ⟨xt, xy, xl, xz⟩⟩ := c
        simp only at *
        by_cases ha : xa = g
        · subst ha
          have hb : (xt == 1) = false := by simpa using fun h => hyes ⟨rfl, h⟩
          clear hyes
          go_wp2_with fail
          go_round
          case rel => exact ⟨j + 1, by go_num, by omega, HN⟩
          case measure => simp [intOf] <;> omega
        · have hb : (xa == g) = false := by simpa using ha
          clear hyes ha
          go_wp2_with fail
          go_round
          case rel => exact ⟨j + 1, by go_num, by omega, HN⟩
          case measure => simp [intOf] <;> omega
    · obtain rfl : j = cs.length := by omega
      have hn := hr.out
      rw [List.take_length] at hn
      have HE : Hid (slotsV ws l cs g = 0) := Lib.hid (by unfold slotsV; rw [HNo.out hn]; rfl)
      clear hr hn
      go_wp2_with fail
      go_ret
      exact ⟨ret_int HE.out.symm, K2.out⟩
end
end Go.Proofs.YtoagghileebokaaGreatDoor.Sp

/-
  The contract of the document's Settle.
-/
namespace Go.Proofs.YtoagghileebokaaGreatDoor.Sp
open Go.RowKit Go.Proofs.YtoagghileebokaaGreatDoor.Ar Go.Proofs.YtoagghileebokaaGreatDoor.Sh
open Go.Proofs.YtoagghileebokaaGreatDoor.Hd (Hd Fields cells4 free4 fitL)
open Go.Proofs.YtoagghileebokaaGreatDoor.Tb (Ty cells3)
open Go.Proofs.YtoagghileebokaaGreatDoor.Kd (typV)
set_option linter.unusedVariables false
def sizes (os : List Cel) : List Int := os.map (fun c => c.h.sz)
theorem sizes_snoc (os : List Cel) (c : Cel) : sizes (os ++ [c]) = sizes os ++ [c.h.sz] := by simp [sizes]
theorem sizes_length (os : List Cel) : (sizes os).length = os.length := by simp [sizes]
theorem sizes_get {os : List Cel} {j : Nat} (h : j < os.length) : (sizes os).getD j 0 = (os.getD j Cel.zero).h.sz := by
  unfold sizes
  rw [List.getD_eq_getElem?_getD, List.getD_eq_getElem?_getD, List.getElem?_map, List.getElem?_eq_getElem h]
  rfl
/-- What is settled so far. -/
def Upto (ws : List Int) (l : List Ty) (gs : List Int) (j : Nat) (e : Int) (os : List Cel) : Prop :=
  os.length = j ∧ os.map (fun c => c.a) = gs.take j ∧ standL ws l 0 gs = (standL ws l e (gs.drop j)).map (fun r => os ++ r)
theorem int_drop {l : List Int} {j : Nat} (h : j < l.length) : l.drop j = l.getD j 0 :: l.drop (j + 1) := by
  rw [List.drop_eq_getElem_cons h, List.getD_eq_getElem?_getD, List.getElem?_eq_getElem h]
  rfl
theorem int_take {l : List Int} {j : Nat} (h : j < l.length) : l.take (j + 1) = l.take j ++ [l.getD j 0] := by
  rw [List.take_add_one, List.getD_eq_getElem?_getD, List.getElem?_eq_getElem h]
  rfl
theorem int_mem {l : List Int} {j : Nat} (h : j < l.length) : l.getD j 0 ∈ l := by
  rw [List.getD_eq_getElem?_getD, List.getElem?_eq_getElem h]
  exact List.getElem_mem h
theorem Upto.zero (ws : List Int) (l : List Ty) (gs : List Int) : Upto ws l gs 0 0 [] := ⟨rfl, rfl, by
  rw [List.drop_zero]
  cases standL ws l 0 gs <;> rfl⟩
theorem Upto.bad {ws : List Int} {l : List Ty} {gs : List Int} {j : Nat} {e : Int} {os : List Cel} (h : Upto ws l gs j e os) (hj : j < gs.length) (hb : ¬ (ofE ws l (gs.getD j 0) = 0 ∧ e ≤ gs.getD j 0)) : settleE ws l gs = 2 ∧ settleX ws l gs = ws := by
  have h1 : standL ws l 0 gs = none := by
    rw [h.2.2, int_drop hj]
    unfold standL
    rw [if_neg hb]
    rfl
  unfold settleE settleX
  rw [h1]
  exact ⟨rfl, rfl⟩
theorem Upto.next {ws : List Int} {l : List Ty} {gs : List Int} {j : Nat} {e : Int} {os : List Cel} (h : Upto ws l gs j e os) (hj : j < gs.length) (hb : ofE ws l (gs.getD j 0) = 0 ∧ e ≤ gs.getD j 0) :
    Upto ws l gs (j + 1) (gs.getD j 0 + (hdH ws (gs.getD j 0)).sz) (os ++ [⟨gs.getD j 0, hdH ws (gs.getD j 0)⟩]) := by
  refine ⟨by rw [List.length_append, h.1]; rfl, by rw [List.map_append, h.2.1, int_take hj]; rfl, ?_⟩
  rw [h.2.2, int_drop hj]
  conv => lhs; unfold standL
  rw [if_pos hb, Option.map_map]
  congr 1
  funext r
  simp
theorem Upto.done {ws : List Int} {l : List Ty} {gs : List Int} {e : Int} {os : List Cel} (h : Upto ws l gs gs.length e os) : standL ws l 0 gs = some os ∧ settleE ws l gs = 0 ∧ settleX ws l gs = becomeW ws 0 os (gran ws) := by
  have h1 : standL ws l 0 gs = some os := by
    rw [h.2.2, List.drop_length]
    unfold standL
    simp
  refine ⟨h1, ?_, ?_⟩
  · unfold settleE; rw [h1]; rfl
  · unfold settleX; rw [h1]
section
variable {x : World} {r q cap : Nat} {B : Option Addr} {d : Nat} {l : List Ty} {ws : List Int} {cs : List Cel}
theorem apart_int {w : World} {r g f : Nat} {T : TypeId} {a b : Value} {z : Int} (h : Has w r T [a, b]) (ha : ∀ n, a ≠ .int .i64 n) (hb : ∀ n, b ≠ .int .i64 n) (hc : w.cell? ⟨g, f, none⟩ = some (.int .i64 z)) : g ≠ r := by
  rintro rfl
  rw [h.cell] at hc
  match f, hc with
  | 0, hc => exact ha z (Option.some.inj hc)
  | 1, hc => exact hb z (Option.some.inj hc)
theorem own_apart {w : World} {v : Value} {l : List Int} {b : Nat} {T : TypeId} {cs : List Value} (h : Ir.Own w v l) (hb : Has w b T cs) (ht : T ≠ 3) : v.ownBlock ≠ some b := fun e => by
  obtain ⟨ds, hd⟩ := Ir.own_cells h b (by rw [e]; simp)
  exact Has.block_type hb hd ht rfl
set_option maxRecDepth 100000 in
set_option maxHeartbeats 8000000 in
theorem ssettle_ok (h : DSp x r q cap B d l ws) (hf : Fit x B l ws cs) (A : Option Addr) (gs : List Int) (ca : Nat) (hS : Ir.Seen x A gs) (hlen : gs.length ≤ 100000) :
    Calls Tryz.prog 84 #[.pointer (some ⟨r, 0, none⟩), .slice A gs.length ca] x fun e y => e = .returned (.int .i64 (settleE ws l gs)) ∧ Doc x y r q B d l (settleX ws l gs) := by
  have hsh := hf.short
  have hgr : 0 ≤ gran ws ∧ gran ws ≤ 32768 := by unfold gran; omega
  have HOf := Lib.hid (fun y (k : Kept [] x y) (g : Int) => sof_ok (h.keep0 k) (hf.keep0 k) g)
  have HD := Lib.hid h
  have HSe := Lib.hid hS
  have HSc := Lib.hid (fun (g : Int) (he : ofE ws l g = 0) => stand_cell he)
  have HSt := Lib.hid (fun (os : List Cel) (he : standL ws l 0 gs = some os) => standing_of he hgr.1)
  have hrx := h.head.lt
  have H0 : Hid (Upto ws l gs 0 0 [] ∧ Ir.Own x (.slice none 0 0) (sizes []) ∧ Sh.FreshV x (.slice none 0 0) ∧ Kept [] x x) := Lib.hid ⟨Upto.zero _ _ _, Ir.Own.nil _, .inl rfl, Kept.refl _ _⟩
  have HLay : Hid (∀ y q' cap' ws', DSp y r q' cap' B d l ws' → ws'.length = ws.length → ∀ f e : Int, 0 ≤ f → f ≤ e → e ≤ gran ws → Calls Tryz.prog 105 #[.pointer (some ⟨r, 0, none⟩), .int .i64 f, .int .i64 (e - f)] y fun e1 y1 => (∃ v, e1 = .returned v) ∧ Doc y y1 r q' B d l (gapS ws' f e)) := Lib.hid fun y q' cap' ws' hd hl f e h1 h2 h3 => by
    have h4 := lay_ok hd (by omega) f (e - f) h1 (fun _ => by rw [gran_eq hl]; omega) (by omega)
    rw [show f + (e - f) = e by omega] at h4
    exact h4
  have HEd : Hid ((ws.length : Int).tdiv 2 = gran ws) := Lib.hid (Int.tdiv_eq_ediv_of_nonneg (by omega))
  clear h hf hS
  go_enter Tryz.func84, Tryz.ntmps84
  go_wp2_with fail
  go_loopw [5, 6, 7] (fun v f t wr => ∃ (j : Nat) (ev : Int) (os : List Cel), t = .int .i64 (j : Int) ∧ f = .int .i64 ev ∧ j ≤ gs.length ∧ 0 ≤ ev ∧ ev ≤ gran ws ∧ Hid (Upto ws l gs j ev os ∧ Ir.Own wr v (sizes os) ∧ Sh.FreshV x v ∧ Kept [] x wr)) (fun _ _ t _ => gs.length - (intOf t).toNat)
  case atStart => exact ⟨0, 0, [], rfl, rfl, Nat.zero_le _, Int.le_refl _, hgr.1, H0⟩
  case round =>
    obtain ⟨j, ev, os, rfl, rfl, hj, e0, e1, hr⟩ := hrel
    clear H0
    by_cases hlt : j < gs.length
    · obtain ⟨ga, fa, rfl, hgl, hcells⟩ := HSe.out (by rintro rfl; cases hlt)
      obtain ⟨g, hg⟩ : ∃ g, g = gs.getD j 0 := ⟨_, rfl⟩
      have HAt : Hid (∀ y, Kept [] x y → y.cell? ⟨ga, fa + j, none⟩ = some (.int .i64 g)) := Lib.hid fun y k => by
        rw [World.cell?_of_block (w := x) (k.old ga hgl (by simp)), hg]
        exact hcells j _ (Ir.ints_get gs j hlt)
      have HGj := Lib.hid hg
      clear hcells hg
      have HK := Lib.hid hr.out.2.2.2
      have hco := HOf.out wr HK.out g
      obtain ⟨d0, d1, f0⟩ := (HD.out.keep0 HK.out).cells
      have a0 := HAt.out wr HK.out
      have hsc := HSc.out g
      obtain ⟨L, hL⟩ : ∃ L, ws.length = L := ⟨_, rfl⟩
      obtain ⟨M, hM⟩ : ∃ M, l.length = M := ⟨_, rfl⟩
      have hv : docH ws l g = if ofE ws l g = 0 then hdH ws g else Hd.zero := rfl
      obtain ⟨er, her⟩ : ∃ er, ofE ws l g = er := ⟨_, rfl⟩
      have HVz : Hid (er = 0 → (docH ws l g).sz = (hdH ws g).sz) := Lib.hid fun h0 => by rw [hv, her, if_pos h0]
      obtain ⟨⟨vt, vy, vl, vz⟩, hvh⟩ : ∃ v, docH ws l g = v := ⟨_, rfl⟩
      obtain ⟨⟨tk, tw, tm⟩, htt⟩ : ∃ t, docT ws l g = t := ⟨_, rfl⟩
      rw [hvh, htt, her, hL, hM] at hco
      rw [hvh] at HVz
      rw [hL] at d0
      rw [hM] at d1
      rw [her] at hsc
      unfold Hd.val Tb.Ty.val at hco
      simp only at hco HVz
      have HO2 : Hid (∀ y, Kept [] wr y → Calls Tryz.prog 112 #[.slice (some ⟨q, 0, none⟩) L cap, .slice B M d, .int .i64 g] y fun e z => e = .returned (.tuple #[.agg #[.int .u8 vt, .int .i64 vy, .int .i64 vl, .int .i64 vz], .agg #[.int .u8 (tk : Int), .int .i64 tw, .int .u64 (tm : Int)], .int .i64 er]) ∧ Kept [] y z ∧ z.cell? ⟨r, 0, none⟩ = some (.slice (some ⟨q, 0, none⟩) L cap) ∧ z.cell? ⟨r, 1, none⟩ = some (.slice B M d) ∧ z.cell? ⟨ga, fa + j, none⟩ = some (.int .i64 g)) := Lib.hid fun y k => by
        have h1 := HOf.out y (HK.out.trans k) g
        rw [hvh, htt, her, hL, hM] at h1
        refine h1.mono fun e z ⟨he, hk⟩ => ⟨he, hk, ?_, ?_, HAt.out z ((HK.out.trans k).trans hk)⟩
        · rw [← hL]; exact (HD.out.keep0 ((HK.out.trans k).trans hk)).cells.1
        · rw [← hM]; exact (HD.out.keep0 ((HK.out.trans k).trans hk)).cells.2.1
      have HER := Lib.hid her
      have HLL := Lib.hid hL
      have HUp := Lib.hid hr.out.1
      have HOw := Lib.hid hr.out.2.1
      have HFr := Lib.hid hr.out.2.2.1
      have hx0 : Kept [] wr wr := Kept.refl _ _
      have hmo := HK.out.more
      have n1 : wr.heap.size ≠ r := by omega
      have n2 : wr.heap.size + 1 ≠ r := by omega
      have n5 : wr.heap.size ≠ ga := by omega
      have n6 : wr.heap.size + 1 ≠ ga := by omega
      clear hr hco hv hvh htt her hL hM hmo HOf
      go_upto_region 6 with fail
      go_cut [8, 9, 10] (fun a b c wx => ∃ b1 b2, a = .pointer (some ⟨b1, 0, none⟩) ∧ b = .pointer (some ⟨b2, 0, none⟩) ∧ c = .int .i64 er ∧ Hid (Two wr wx b1 b2 [.int .u8 vt, .int .i64 vy, .int .i64 vl, .int .i64 vz] [.int .u8 (tk : Int), .int .i64 tw, .int .u64 (tm : Int)]))
      case first =>
        go_region_held3 (fun y => y.cell? ⟨r, 0, none⟩ = some (.slice (some ⟨q, 0, none⟩) L cap) ∧ y.cell? ⟨r, 1, none⟩ = some (.slice B M d) ∧ y.cell? ⟨ga, fa + j, none⟩ = some (.int .i64 g)) (go_keep)
          (first | (go_at_call 112; refine (HO2.out _ (by first | exact hx0.drew | exact (hx0.alloc _).drew | exact ((hx0.alloc _).alloc _).drew)).mono ?_; rintro e z1 ⟨rfl, hz1, r0, r1, r2⟩; have n3 : z1.heap.size ≠ r := Nat.ne_of_gt (World.block_lt_of_cell? z1 _ r0); have n4 : z1.heap.size + 1 ≠ r := Nat.ne_of_gt (Nat.lt_succ_of_lt (World.block_lt_of_cell? z1 _ r0)); have p0 : z1.heap.size ≠ ga := Nat.ne_of_gt (World.block_lt_of_cell? z1 _ r2); have p1 : z1.heap.size + 1 ≠ ga := Nat.ne_of_gt (Nat.lt_succ_of_lt (World.block_lt_of_cell? z1 _ r2)); (first | (obtain ⟨hh, ht⟩ := box_ht hz1; obtain ⟨i0, i1, i2, i3⟩ := cells4 hh; obtain ⟨j0, j1, j2⟩ := cells3 ht; obtain ⟨fi0, fi1, fi2, fi3⟩ := free4 hh; obtain ⟨fj0, fj1, fj2⟩ := Tb.free3 ht; have kht := Lib.hid (And.intro hh (And.intro ht hz1)); clear hh ht hz1) | (obtain ⟨ht, hh⟩ := box_th hz1; obtain ⟨i0, i1, i2, i3⟩ := cells4 hh; obtain ⟨j0, j1, j2⟩ := cells3 ht; obtain ⟨fi0, fi1, fi2, fi3⟩ := free4 hh; obtain ⟨fj0, fj1, fj2⟩ := Tb.free3 ht; have kth := Lib.hid (And.intro hh (And.intro ht hz1)); clear hh ht hz1) | (obtain ⟨hh, hlt9⟩ := box_h hz1; obtain ⟨i0, i1, i2, i3⟩ := cells4 hh; obtain ⟨fi0, fi1, fi2, fi3⟩ := free4 hh; have kh := Lib.hid (And.intro hh hz1); clear hh hz1) | (obtain ⟨ht, hlt9⟩ := box_t hz1; obtain ⟨j0, j1, j2⟩ := cells3 ht; obtain ⟨fj0, fj1, fj2⟩ := Tb.free3 ht; have kt := Lib.hid (And.intro ht hz1); clear ht hz1) | (have k0 := Lib.hid hz1; clear hz1))))
        all_goals
          clear r0 r1 r2 n3 n4 p0 p1
          go_wp2_with fail
          go_meet
          case rel =>
            first
            | with_reducible exact ⟨_, _, rfl, rfl, rfl, Lib.hid (two4 rfl rfl kht.out.1 kht.out.2.1 kht.out.2.2)⟩
            | with_reducible exact ⟨_, _, rfl, rfl, rfl, Lib.hid (two6 rfl rfl kth.out.1 kth.out.2.1 kth.out.2.2)⟩
            | with_reducible exact ⟨_, _, rfl, rfl, rfl, Lib.hid (two3 rfl kh.out.1 kh.out.2)⟩
            | with_reducible exact ⟨_, _, rfl, rfl, rfl, Lib.hid (two5 rfl kt.out.1 kt.out.2)⟩
            | with_reducible exact ⟨_, _, rfl, rfl, rfl, Lib.hid (two1 k0.out)⟩
            | with_reducible exact ⟨_, _, rfl, rfl, rfl, Lib.hid (two2 k0.out)⟩
      case rest =>
        obtain ⟨b1, b2, rfl, rfl, rfl, hcc⟩ := hcut
        obtain ⟨hb1, hb2, hk3⟩ := hcc.out
        have HB1 := Lib.hid hb1
        have HK3 := Lib.hid hk3
        have a1 := HAt.out wc (HK.out.trans hk3)
        have hjl : j < gs.length := hlt
        clear a0 d0 d1 f0 hcc hb2 HO2 hx0 n1 n2 n5 n6
        obtain ⟨i0, i1, i2, i3⟩ := cells4 hb1
        clear hb1 hk3
        by_cases her : er = 0
        · by_cases hge : ev ≤ g
          · obtain ⟨s1, s2, s3, s4, s5, s6⟩ := hsc her
            have hz := can_sz s2
            have hvz := HVz.out her
            rw [← hvz] at hz s6
            have hU := HUp.out.next hjl (by rw [← HGj.out]; exact ⟨by rw [HER.out]; exact her, hge⟩)
            rw [← HGj.out] at hU
            have HUp2 : Hid (os.length = j) := Lib.hid HUp.out.1
            have HU : Hid (Upto ws l gs (j + 1) (g + vz) (os ++ [⟨g, hdH ws g⟩]) ∧ (hdH ws g).sz = vz) := Lib.hid ⟨by rw [hvz]; exact hU, hvz.symm⟩
            clear s2 s3 s4 s5 hsc hvz hU HVz HER HUp HGj
            subst her
            have HNb : Hid (∀ y : World, Has (y.alloc (.cells #[.int .i64 vz] 3)) y.heap.size 3 [.int .i64 vz]) := Lib.hid fun y => Has.new y _ _
            have HOw2 := Lib.hid (HOw.out.keep0 (HK3.out.alloc (.cells #[.int .i64 vz] 3)))
            have HSn2 : Hid (Ir.Seen (wc.alloc (.cells #[.int .i64 vz] 3)) (some ⟨wc.heap.size, 0, none⟩) [vz]) := Lib.hid (Ir.Row.seen (HNb.out wc))
            have HK4 := Lib.hid ((HK.out.trans HK3.out).alloc (.cells #[.int .i64 vz] 3))
            have HB2 := Lib.hid (HB1.out.alloc (.cells #[.int .i64 vz] 3))
            have hol : (sizes os).length + 1 ≤ 1073741824 := by rw [sizes_length, HUp2.out]; omega
            go_wp2_with (at_builtin; (refine Ir.append_numbers rfl (.tmp 45) (.tmp 48) rfl u5 (sizes os) rfl HOw2.out (some ⟨wc.heap.size, 0, none⟩) 1 1 [vz] rfl rfl (fun h => by cases h) HSn2.out hol ?_))
            intro v' w5 o5 g5 b5
            have hk5 := own_grown HK4.out HFr.out g5
            have hf5 := own_fresh (v' := v') HK4.out HFr.out (by rw [World.size_alloc]; exact b5)
            have hne : b1 ∉ u5.ownBlock.toList := fun hm => by
              obtain ⟨ds, hd⟩ := Ir.own_cells HOw2.out _ hm
              exact Has.block_type HB2.out hd (by decide) rfl
            have hB5 := HB2.out.kept (kept_grown g5) hne
            clear i0 i1 i2 i3 a1
            obtain ⟨i0, i1, i2, i3⟩ := cells4 hB5
            have a2 := HAt.out _ hk5
            have HN : Hid (Upto ws l gs (j + 1) (g + vz) (os ++ [⟨g, hdH ws g⟩]) ∧ (∀ n, Ir.Own (w5.drewN n) v' (sizes (os ++ [⟨g, hdH ws g⟩]))) ∧ Sh.FreshV x v' ∧ ∀ n, Kept [] x (w5.drewN n)) := Lib.hid ⟨HU.out.1, fun n => by rw [sizes_snoc, HU.out.2]; exact o5, hf5, fun n => hk5.drewN n⟩
            clear o5 g5 b5 hk5 hf5 hne hB5 hol HU HOw2 HSn2 HK4 HB2 HOw HFr HB1 HK3 HK HNb HUp2 HAt
            have hwr : IntKind.i64.wrap (g + vz) = g + vz := by rw [IntKind.wrap_i64]; omega
            go_wp2_with fail
            go_quiet (fail)
            clear i0 i1 i2 i3 a2 hwr
            go_wp2_with fail
            go_roundw
            case rel => exact ⟨j + 1, g + vz, _, by go_num, rfl, by omega, by omega, by omega, Lib.hid ⟨HN.out.1, HN.out.2.1 _, HN.out.2.2.1, HN.out.2.2.2 _⟩⟩
            case measure => simp [intOf] <;> omega
          · obtain ⟨z1, z2⟩ := HUp.out.bad hjl (by rw [← HGj.out]; exact fun hh => hge hh.2)
            have HE := Lib.hid (And.intro z1 z2)
            have hlt2 : g < ev := by omega
            clear z1 z2 hsc hge
            subst her
            go_wp2_with fail
            go_ret
            exact ⟨ret_int HE.out.1.symm, by rw [HE.out.2]; exact Doc.same HD.out (HK.out.trans HK3.out)⟩
        · obtain ⟨z1, z2⟩ := HUp.out.bad hjl (by rw [← HGj.out]; exact fun hh => her (by rw [← HER.out]; exact hh.1))
          have HE := Lib.hid (And.intro z1 z2)
          have hb : (er != 0) = true := by rw [bne_iff_ne]; exact her
          clear z1 z2 hsc her
          go_wp2_with fail
          go_ret
          exact ⟨ret_int HE.out.1.symm, by rw [HE.out.2]; exact Doc.same HD.out (HK.out.trans HK3.out)⟩
    · obtain rfl : j = gs.length := by omega
      obtain ⟨hU, hO, hFr, hK⟩ := hr.out
      obtain ⟨z1, z2, z3⟩ := hU.done
      have hos : os.length = gs.length := hU.1
      have HMa : Hid (os.map (fun c => c.a) = gs) := Lib.hid (by have := hU.2.1; rwa [List.take_length] at this)
      have HE := Lib.hid (And.intro z2 z3)
      have hst := HSt.out os z1
      have HOw := Lib.hid hO
      have HK := Lib.hid hK
      have hur : Hid (u5.ownBlock ≠ some r) := Lib.hid (own_apart hO (HD.out.keep0 hK).head (by decide))
      obtain ⟨wo, rfl⟩ : ∃ wo, wo = wr := ⟨_, rfl⟩
      have H1 : Hid (∃ q' cap' ws', DSp wo r q' cap' B d l ws' ∧ ws'.length = ws.length ∧ becomeW ws 0 os (gran ws) = becomeW ws' 0 (os.drop 0) (gran ws) ∧ Standing ws' l 0 (os.drop 0) (gran ws) ∧ (q' = q ∨ x.heap.size ≤ q') ∧ Kept [r] wo wo) := Lib.hid ⟨q, cap, ws, HD.out.keep0 hK, rfl, rfl, hst, .inl rfl, Kept.refl _ _⟩
      clear hr hU hO hFr hK z1 z2 z3 hst HSt HSc HOf
      go_wp2_with fail
      go_loopw [6, 11] (fun f t wr => ∃ (j2 : Nat) (e2 : Int), f = .int .i64 e2 ∧ t = .int .i64 (j2 : Int) ∧ j2 ≤ gs.length ∧ 0 ≤ e2 ∧ e2 ≤ gran ws ∧ Hid (∃ q' cap' ws', DSp wr r q' cap' B d l ws' ∧ ws'.length = ws.length ∧ becomeW ws 0 os (gran ws) = becomeW ws' e2 (os.drop j2) (gran ws) ∧ Standing ws' l e2 (os.drop j2) (gran ws) ∧ (q' = q ∨ x.heap.size ≤ q') ∧ Kept [r] wo wr)) (fun _ t _ => gs.length - (intOf t).toNat)
      case atStart => exact ⟨0, 0, rfl, rfl, Nat.zero_le _, Int.le_refl _, hgr.1, H1⟩
      case round =>
        clear H1
        obtain ⟨j2, e2, rfl, rfl, hj2, e20, e21, hr⟩ := hrel
        obtain ⟨q', cap', ws', hd, hl', hb', hs', hq', hk'⟩ := hr.out
        by_cases hlt : j2 < gs.length
        · obtain ⟨ga, fa, rfl, hgl, hcells⟩ := HSe.out (by rintro rfl; cases hlt)
          have hol : j2 < os.length := by omega
          have hca : gs.getD j2 0 = (os.getD j2 Cel.zero).a := by
            have h1 := congrArg (fun z : List Int => z.getD j2 0) HMa.out
            simp only [List.getD_eq_getElem?_getD, List.getElem?_map, List.getElem?_eq_getElem hol] at h1
            rw [List.getD_eq_getElem?_getD, List.getD_eq_getElem?_getD, List.getElem?_eq_getElem hol]
            exact h1.symm
          have hszv := sizes_get hol
          rw [cel_drop hol] at hb' hs'
          have hcc := hcells j2 _ (Ir.ints_get gs j2 hlt)
          rw [hca] at hcc
          have hgar : ga ≠ r := apart_int HD.out.head (fun n hh => by cases hh) (fun n hh => by cases hh) hcc
          have HAt : Hid (∀ y, Kept [r] wo y → y.cell? ⟨ga, fa + j2, none⟩ = some (.int .i64 (os.getD j2 Cel.zero).a)) := Lib.hid fun y k => by
            rw [World.cell?_of_block (w := wo) (k.old ga (Nat.lt_of_lt_of_le hgl HK.out.more) (by simpa using hgar)), World.cell?_of_block (w := x) (HK.out.old ga hgl (by simp))]
            exact hcc
          obtain ⟨gz, cz, hu5, hgz, hcz, _⟩ : ∃ g cap, u5 = .slice (some ⟨g, 0, none⟩) (sizes os).length cap ∧ g < wo.heap.size ∧ (sizes os).length ≤ cap ∧ cap ≤ maxLen := by
            rcases HOw.out.form with ⟨_, hh⟩ | hh
            · have h0 : (sizes os).length = 0 := by rw [hh]; rfl
              rw [sizes_length] at h0
              omega
            · exact hh
          subst hu5
          have HZt : Hid (∀ y, Kept [r] wo y → y.cell? ⟨gz, j2, none⟩ = some (.int .i64 (os.getD j2 Cel.zero).h.sz)) := Lib.hid fun y k => by
            have h1 := HOw.out.kept k (fun g hg => by rw [List.mem_singleton.1 hg]; exact hur.out)
            rw [← hszv]
            exact Ir.Own.cell h1 j2 _ (Ir.ints_get _ j2 (by rw [sizes_length]; exact hol))
          rw [sizes_length, hos] at *
          obtain ⟨t1, t2, t3, t4, t5, t6⟩ := hs'
          have hle := t6.le
          have hz := can_sz t2
          have hGe : gran ws' = gran ws := gran_eq hl'
          have HL := Lib.hid (HLay.out wr q' cap' ws' hd hl' e2 (os.getD j2 Cel.zero).a e20 t1 (by omega))
          have HNx : Hid (becomeW ws 0 os (gran ws) = becomeW (gapS ws' e2 (os.getD j2 Cel.zero).a) ((os.getD j2 Cel.zero).a + (os.getD j2 Cel.zero).h.sz) (os.drop (j2 + 1)) (gran ws) ∧ Standing (gapS ws' e2 (os.getD j2 Cel.zero).a) l ((os.getD j2 Cel.zero).a + (os.getD j2 Cel.zero).h.sz) (os.drop (j2 + 1)) (gran ws) ∧ (gapS ws' e2 (os.getD j2 Cel.zero).a).length = ws.length) :=
            Lib.hid ⟨hb', t6.keep fun b hb => gapS_at e20 (show (os.getD j2 Cel.zero).a ≤ (ws'.length : Int) / 2 from by have : gran ws' = (ws'.length : Int) / 2 := rfl; omega) (by omega) (.inl (by omega)), (gapS_length _ _ _).trans hl'⟩
          have HQ := Lib.hid (And.intro hq' hk')
          have c1 := HAt.out wr hk'
          clear hr hd hb' hq' hk' t2 t3 t4 t5 t6 hcc hca hszv hl' hGe hcells
          generalize gapS ws' e2 (os.getD j2 Cel.zero).a = ws2 at *
          generalize os.getD j2 Cel.zero = c at *
          obtain ⟨xa, ⟨xt, xy, xl, xz⟩⟩ := c
          simp only at *
          go_wp2_with fail
          refine HL.out.mono ?_
          rintro e y ⟨⟨v9, rfl⟩, q2, cap2, h7, hq7, k7⟩
          have hky := HQ.out.2.trans k7
          have hqq : q2 = q ∨ x.heap.size ≤ q2 := by
            rcases hq7 with rfl | hq7
            · exact HQ.out.1
            · have := HK.out.more; have := HQ.out.2.more; exact .inr (by omega)
          clear c1
          have c1 := HAt.out y hky
          have c2 := HZt.out y hky
          have HN : Hid (∀ n, ∃ q' cap' ws', DSp (y.drewN n) r q' cap' B d l ws' ∧ ws'.length = ws.length ∧ becomeW ws 0 os (gran ws) = becomeW ws' (xa + xz) (os.drop (j2 + 1)) (gran ws) ∧ Standing ws' l (xa + xz) (os.drop (j2 + 1)) (gran ws) ∧ (q' = q ∨ x.heap.size ≤ q') ∧ Kept [r] wo (y.drewN n)) :=
            Lib.hid fun n => ⟨q2, cap2, ws2, h7.keep0 ((Kept.refl [] y).drewN n), HNx.out.2.2, HNx.out.1, HNx.out.2.1, hqq, hky.drewN n⟩
          have hwr : IntKind.i64.wrap (xa + xz) = xa + xz := by rw [IntKind.wrap_i64]; omega
          clear h7 hq7 k7 hky hqq HL HNx HQ HAt HZt
          go_wp2_with fail
          go_quiet (fail)
          clear c1 c2 hwr
          go_wp2_with fail
          go_roundw
          case rel => exact ⟨j2 + 1, xa + xz, rfl, by go_num, by omega, by omega, by omega, Lib.hid (HN.out _)⟩
          case measure => simp [intOf] <;> omega
        · obtain rfl : j2 = gs.length := by omega
          rw [List.drop_eq_nil_of_le (by omega)] at hb' hs'
          have hse : e2 ≤ gran ws := hs'
          have HL := Lib.hid (HLay.out wr q' cap' ws' hd hl' e2 (gran ws) e20 hse (Int.le_refl _))
          have HX : Hid (becomeW ws 0 os (gran ws) = gapS ws' e2 (gran ws)) := Lib.hid hb'
          have HQ := Lib.hid (And.intro hq' hk')
          obtain ⟨c0, c1, f0⟩ := hd.cells
          rw [hl'] at c0
          have ed := HEd.out
          clear hr hd hl' hb' hs' hq' hk'
          generalize ws.length = L at *
          generalize gran ws = G at *
          go_wp2_with fail
          refine HL.out.mono ?_
          rintro e y ⟨⟨v9, rfl⟩, q2, cap2, h7, hq7, k7⟩
          have HEnd : Hid (Doc x y r q B d l (gapS ws' e2 G)) := Lib.hid ⟨q2, cap2, h7, by
            rcases hq7 with rfl | hq7
            · exact HQ.out.1
            · have := HK.out.more; have := HQ.out.2.more; exact .inr (by omega), ((HK.out.none _).trans HQ.out.2).trans k7⟩
          clear h7 hq7 k7 HL
          go_wp2_with fail
          go_ret
          exact ⟨ret_int HE.out.1.symm, by rw [HE.out.2, HX.out]; exact HEnd.out⟩
end
end Go.Proofs.YtoagghileebokaaGreatDoor.Sp

/-
  The contracts of Table, standing and Settle.
-/
namespace Go.Proofs.YtoagghileebokaaGreatDoor.Sp
open Go.RowKit Go.Proofs.YtoagghileebokaaGreatDoor.Ar Go.Proofs.YtoagghileebokaaGreatDoor.Sh
open Go.Proofs.YtoagghileebokaaGreatDoor.Hd (Hd Fields cells4 free4 fitL)
open Go.Proofs.YtoagghileebokaaGreatDoor.Tb (Ty Tab cells3)
open Go.Proofs.YtoagghileebokaaGreatDoor.Wd (Table)
set_option linter.unusedVariables false
theorem Upto.none {ws : List Int} {l : List Ty} {gs : List Int} {j : Nat} {e : Int} {os : List Cel} (h : Upto ws l gs j e os) (hj : j < gs.length) (hb : ¬ (ofE ws l (gs.getD j 0) = 0 ∧ e ≤ gs.getD j 0)) : standL ws l 0 gs = Option.none := by
  rw [h.2.2, int_drop hj]
  unfold standL
  rw [if_neg hb]
  rfl
theorem standing_most {ws : List Int} {l : List Ty} : ∀ {cs : List Cel} {f e : Int}, Standing ws l f cs e → 0 ≤ f → e ≤ 32768 → cs.length ≤ 32768 := by
  have key : ∀ (cs : List Cel) (f e : Int), Standing ws l f cs e → (cs.length : Int) + f ≤ e := by
    intro cs
    induction cs with
    | nil => intro f e h; have h : f ≤ e := h; simpa using h
    | cons c cs ih =>
      intro f e h
      have h1 := ih _ _ h.2.2.2.2.2
      have h2 := can_sz h.2.1
      have h3 := h.1
      rw [List.length_cons]
      omega
  intro cs f e h h0 he
  have := key cs f e h
  omega
section
variable {w : World} {s : Ids} {l : List Ty} {ws : List Int} {bs : List Bool}
set_option maxRecDepth 100000 in
theorem table_ok (h : Spc w s l ws bs) : Calls Tryz.prog 9 #[.pointer (some ⟨s.sp, 0, none⟩)] w fun e w' => e = .returned (.pointer (some ⟨s.tp, 0, none⟩)) ∧ w = w' := by
  obtain ⟨_, c1, _⟩ := h.cells
  clear h
  generalize s.sp = b at *
  generalize s.tp = d at *
  go_enter Tryz.func9, Tryz.ntmps9
  go_wp2_with fail
  go_ret
  exact ⟨rfl, rfl⟩
set_option maxRecDepth 100000 in
set_option maxHeartbeats 8000000 in
theorem standing_ok (hG : Glob w s) (h : Spc w s l ws bs) (A : Option Addr) (gs : List Int) (ca : Nat) (hS : Ir.Seen w A gs) (hI : ∀ g ∈ gs, -9223372036854775808 ≤ g ∧ g ≤ 9223372036854775807) (hlen : gs.length ≤ 100000) :
    Calls Tryz.prog 115 #[.pointer (some ⟨s.sp, 0, none⟩), .slice A gs.length ca] w fun e w' => Kept [] w w' ∧ ((standL ws l 0 gs = none ∧ e = .returned (.tuple #[.slice none 0 0, .bool false])) ∨ (∃ os v, standL ws l 0 gs = some os ∧ e = .returned (.tuple #[v, .bool true]) ∧ Own w' v os ∧ FreshV w v)) := by
  have hsh := h.short
  have hgr : 0 ≤ gran ws ∧ gran ws ≤ 32768 := by unfold gran; omega
  have HOf : Hid (∀ y, Kept [] w y → ∀ g : Int, -9223372036854775808 ≤ g → g ≤ 9223372036854775807 → Calls Tryz.prog 81 #[.pointer (some ⟨s.ap, 0, none⟩), .pointer (some ⟨s.tp, 0, none⟩), .int .i64 g] y (OfPost y s.ap ws l g)) := Lib.hid fun y k g g0 g1 => by
    obtain ⟨m, a⟩ := h.ar
    exact of_ok (hG.f.keep0 k) (a.keep0 k) h.wds (h.tab.keep0 k) g g0 g1
  have HC := Lib.hid (fun y (k : Kept [] w y) => (h.keep0 k).cells)
  have HSe := Lib.hid hS
  have HI := Lib.hid hI
  have HSc := Lib.hid (fun (g : Int) (he : ofE ws l g = 0) => stand_cell he)
  have H0 : Hid (Upto ws l gs 0 0 [] ∧ Own w (.slice none 0 0) [] ∧ FreshV w (.slice none 0 0) ∧ Kept [] w w) := Lib.hid ⟨Upto.zero _ _ _, Own.nil _, .inl rfl, Kept.refl _ _⟩
  have hlw := h.head.lt
  clear h hG hS hI
  generalize s.sp = sp at *
  generalize s.ap = ap at *
  generalize s.tp = tp at *
  generalize s.bp = bp at *
  go_enter Tryz.func115, Tryz.ntmps115
  go_wp2_with fail
  go_loopw [6, 7, 15] (fun v f t wr => ∃ (j : Nat) (ev : Int) (os : List Cel), t = .int .i64 (j : Int) ∧ f = .int .i64 ev ∧ j ≤ gs.length ∧ 0 ≤ ev ∧ ev ≤ gran ws ∧ Hid (Upto ws l gs j ev os ∧ Own wr v os ∧ FreshV w v ∧ Kept [] w wr)) (fun _ _ t _ => gs.length - (intOf t).toNat)
  case atStart => exact ⟨0, 0, [], rfl, rfl, Nat.zero_le _, Int.le_refl _, hgr.1, H0⟩
  case round =>
    obtain ⟨j, ev, os, rfl, rfl, hj, e0, e1, hr⟩ := hrel
    clear H0
    by_cases hlt : j < gs.length
    · obtain ⟨ga, fa, rfl, hgl, hcells⟩ := HSe.out (by rintro rfl; cases hlt)
      have hgi := HI.out _ (int_mem hlt)
      obtain ⟨g, hg⟩ : ∃ g, g = gs.getD j 0 := ⟨_, rfl⟩
      rw [← hg] at hgi
      have a0 : wr.cell? ⟨ga, fa + j, none⟩ = some (.int .i64 g) := by
        rw [World.cell?_of_block (w := w) (hr.out.2.2.2.old ga hgl (by simp)), hg]
        exact hcells j _ (Ir.ints_get gs j hlt)
      have HGj := Lib.hid hg
      clear hcells hg
      have HK := Lib.hid hr.out.2.2.2
      obtain ⟨d0, d1, _⟩ := HC.out wr HK.out
      have hsc := HSc.out g
      have HUp := Lib.hid hr.out.1
      have HOw := Lib.hid hr.out.2.1
      have HFr := Lib.hid hr.out.2.2.1
      have hx0 : Kept [] wr wr := Kept.refl _ _
      have hjl : j < gs.length := hlt
      by_cases her : ofE ws l g = 0
      · have HO2 : Hid (∀ y, Kept [] wr y → Calls Tryz.prog 81 #[.pointer (some ⟨ap, 0, none⟩), .pointer (some ⟨tp, 0, none⟩), .int .i64 g] y fun e z => ∃ v, e = .returned (.tuple #[.pointer (some ⟨v, 0, none⟩), .int .i64 0]) ∧ Hid (Sh.View z v ap g (hdH ws g) (ofT ws l g) (ofS ws l g) ∧ Kept [] wr z) ∧ z.cell? ⟨sp, 0, none⟩ = some (.pointer (some ⟨ap, 0, none⟩)) ∧ z.cell? ⟨sp, 1, none⟩ = some (.pointer (some ⟨tp, 0, none⟩))) := Lib.hid fun y k => by
          refine (HOf.out y (HK.out.trans k) g hgi.1 hgi.2).mono ?_
          rintro e z ⟨hk, ⟨h1, _⟩ | ⟨_, v, h2, h3, h4⟩⟩
          · exact absurd her h1
          · obtain ⟨c0, c1, _⟩ := HC.out z ((HK.out.trans k).trans hk)
            exact ⟨v, h2, Lib.hid ⟨h4, k.trans hk⟩, c0, c1⟩
        obtain ⟨s1, s2, s3, s4, s5, s6⟩ := hsc her
        have hz := can_sz s2
        by_cases hge : ev ≤ g
        · have HU := Lib.hid (HUp.out.next hjl (by rw [← HGj.out]; exact ⟨her, hge⟩))
          rw [← HGj.out] at HU
          have hol : os.length ≤ 100000 := by have := HUp.out.1; omega
          have HVh := Lib.hid (fun (z : World) v (hv : Sh.View z v ap g (hdH ws g) (ofT ws l g) (ofS ws l g)) => vhead_ok hv)
          have HBh := Lib.hid (fun X => behind_ok ⟨g, hdH ws g⟩ (by simp only; omega) (by simp only; omega) (by simp only; omega) (by simp only; omega) X)
          clear hr s2 s3 s4 s5 her hsc HOf HGj HUp
          generalize ofT ws l g = tt at *
          generalize ofS ws l g = ss at *
          generalize hdH ws g = hh at *
          obtain ⟨xt, xy, xl, xz⟩ := hh
          unfold Cel.val at HBh
          unfold Hd.val at HVh
          simp only at *
          go_wp2_with fail
          go_region_held3 (fun y => y.cell? ⟨sp, 0, none⟩ = some (.pointer (some ⟨ap, 0, none⟩)) ∧ y.cell? ⟨sp, 1, none⟩ = some (.pointer (some ⟨tp, 0, none⟩))) (go_keep)
            (first
              | (go_at_call 81; refine (HO2.out _ (by first | exact hx0.drew | exact hx0)).mono ?_; rintro e z1 ⟨v, rfl, hvv, r0, r1⟩))
          all_goals
            have HV1 := Lib.hid (HVh.out z1 v hvv.out.1)
            have HK1 := Lib.hid hvv.out.2
            clear hvv r0 r1 a0 d0 d1 HO2 hx0 HVh
            go_wp2_with fail
            refine HV1.out.mono ?_
            rintro e z2 ⟨rfl, k2⟩
            have hB2 : Has (z2.alloc (.cells #[.int .i64 g, .int .u8 xt, .int .i64 xy, .int .i64 xl, .int .i64 xz] 51)) z2.heap.size 51 [.int .i64 g, .int .u8 xt, .int .i64 xy, .int .i64 xl, .int .i64 xz] := Has.new z2 _ _
            have HK2 := Lib.hid (HK1.out.trans (k2.alloc (.cells #[.int .i64 g, .int .u8 xt, .int .i64 xy, .int .i64 xl, .int .i64 xz] 51)))
            have HB2 := Lib.hid hB2
            have HCb : Hid (wr.heap.size ≤ z2.heap.size) := Lib.hid (Nat.le_trans HK1.out.more k2.more)
            clear k2 hB2 HV1 HK1
            obtain ⟨c0, c1, c2, c3, c4⟩ := cells5 HB2.out
            have hka : Kept [] (z2.alloc (.cells #[.int .i64 g, .int .u8 xt, .int .i64 xy, .int .i64 xl, .int .i64 xz] 51)) ((z2.alloc (.cells #[.int .i64 g, .int .u8 xt, .int .i64 xy, .int .i64 xl, .int .i64 xz] 51)).alloc (.cells #[.int .i64 g, .int .u8 xt, .int .i64 xy, .int .i64 xl, .int .i64 xz] 51)) := (Kept.refl [] _).alloc _
            have hsn : Seen ((z2.alloc (.cells #[.int .i64 g, .int .u8 xt, .int .i64 xy, .int .i64 xl, .int .i64 xz] 51)).alloc (.cells #[.int .i64 g, .int .u8 xt, .int .i64 xy, .int .i64 xl, .int .i64 xz] 51)) (some ⟨(z2.alloc (.cells #[.int .i64 g, .int .u8 xt, .int .i64 xy, .int .i64 xl, .int .i64 xz] 51)).heap.size, 0, none⟩) [⟨g, ⟨xt, xy, xl, xz⟩⟩] := seen_one (x := ⟨g, ⟨xt, xy, xl, xz⟩⟩) (Has.new (z2.alloc (.cells #[.int .i64 g, .int .u8 xt, .int .i64 xy, .int .i64 xl, .int .i64 xz] 51)) _ _)
            rw [World.size_alloc] at hsn
            have HSn := Lib.hid hsn
            have HO3 := Lib.hid (HOw.out.keep0 (HK2.out.trans hka))
            have HK3 := Lib.hid ((HK.out.trans HK2.out).trans hka)
            have HB3 := Lib.hid (HB2.out.keep0 hka)
            clear hka hsn
            go_wp2_with (at_builtin; (refine append_cels rfl (.tmp 43) (.tmp 45) rfl u6 os rfl HO3.out (some ⟨z2.heap.size + 1, 0, none⟩) 1 [⟨g, ⟨xt, xy, xl, xz⟩⟩] rfl (fun h => by cases h) HSn.out (by rw [List.length_singleton]; omega) ?_))
            intro v' w5 o5 g5 b5 _
            have hk5 := own_grown HK3.out HFr.out g5
            have hf5 := own_fresh (v' := v') HK3.out HFr.out (by rw [World.size_alloc, World.size_alloc]; exact b5)
            have HN : Hid (∀ X, Kept [] w5 X → Upto ws l gs (j + 1) (g + xz) (os ++ [⟨g, ⟨xt, xy, xl, xz⟩⟩]) ∧ Own X v' (os ++ [⟨g, ⟨xt, xy, xl, xz⟩⟩]) ∧ FreshV w v' ∧ Kept [] w X) := Lib.hid fun X k => ⟨HU.out, o5.keep0 k, hf5, hk5.trans k⟩
            have hne : z2.heap.size ∉ u6.ownBlock.toList := fun hm => by
              rcases own_fresh HK.out HFr.out (.inl rfl) with hh | ⟨b, hh, _⟩
              · rw [hh] at hm; simp at hm
              · have h1 := HOw.out.lt b hh
                rw [hh] at hm
                have hcb : z2.heap.size = b := by simpa using hm
                have h2 := HCb.out
                omega
            have hB5 := HB3.out.kept (kept_grown g5) hne
            clear c0 c1 c2 c3 c4
            obtain ⟨c0, c1, c2, c3, c4⟩ := cells5 hB5
            clear o5 g5 b5 hk5 hf5 hne hB5 HU HO3 HSn HK3 HB3 HB2 HK2 HOw HFr HK
            go_wp2_with fail
            refine (HBh.out _).mono ?_
            rintro e w6 ⟨rfl, k6⟩
            have HN6 := Lib.hid (HN.out _ k6)
            clear k6 HN HBh c0 c1 c2 c3 c4
            go_wp2_with fail
            go_roundw
            case rel => exact ⟨j + 1, g + xz, _, by go_num, rfl, by omega, by omega, by omega, HN6⟩
            case measure => simp [intOf] <;> omega
        · have HE : Hid (standL ws l 0 gs = none) := Lib.hid (HUp.out.none hjl (by rw [← HGj.out]; exact fun hh => hge hh.2))
          have hlt2 : g < ev := by omega
          clear hr s2 s3 s4 s5 her hsc HOf HGj HUp hge
          generalize ofT ws l g = tt at *
          generalize ofS ws l g = ss at *
          generalize hdH ws g = hh at *
          go_wp2_with fail
          go_region_held3 (fun y => y.cell? ⟨sp, 0, none⟩ = some (.pointer (some ⟨ap, 0, none⟩)) ∧ y.cell? ⟨sp, 1, none⟩ = some (.pointer (some ⟨tp, 0, none⟩))) (go_keep)
            (first
              | (go_at_call 81; refine (HO2.out _ (by first | exact hx0.drew | exact hx0)).mono ?_; rintro e z1 ⟨v, rfl, hvv, r0, r1⟩))
          all_goals
            have HK1 := Lib.hid (HK.out.trans hvv.out.2)
            clear hvv r0 r1 a0 d0 d1 HO2 hx0
            go_wp2_with fail
            go_ret2
            exact ⟨HK1.out, .inl ⟨HE.out, rfl⟩⟩
      · have HE : Hid (standL ws l 0 gs = none) := Lib.hid (HUp.out.none hjl (by rw [← HGj.out]; exact fun hh => her hh.1))
        have HO2 : Hid (∀ y, Kept [] wr y → Calls Tryz.prog 81 #[.pointer (some ⟨ap, 0, none⟩), .pointer (some ⟨tp, 0, none⟩), .int .i64 g] y fun e z => e = .returned (.tuple #[.pointer none, .int .i64 (ofE ws l g)]) ∧ Kept [] wr z ∧ z.cell? ⟨sp, 0, none⟩ = some (.pointer (some ⟨ap, 0, none⟩)) ∧ z.cell? ⟨sp, 1, none⟩ = some (.pointer (some ⟨tp, 0, none⟩))) := Lib.hid fun y k => by
          refine (HOf.out y (HK.out.trans k) g hgi.1 hgi.2).mono ?_
          rintro e z ⟨hk, ⟨_, h2⟩ | ⟨h1, _⟩⟩
          · obtain ⟨c0, c1, _⟩ := HC.out z ((HK.out.trans k).trans hk)
            exact ⟨h2, k.trans hk, c0, c1⟩
          · exact absurd h1 her
        have hb : (ofE ws l g != 0) = true := by rw [bne_iff_ne]; exact her
        clear hr her hsc HOf HGj HUp
        generalize ofE ws l g = er at *
        go_wp2_with fail
        go_region_held3 (fun y => y.cell? ⟨sp, 0, none⟩ = some (.pointer (some ⟨ap, 0, none⟩)) ∧ y.cell? ⟨sp, 1, none⟩ = some (.pointer (some ⟨tp, 0, none⟩))) (go_keep)
          (first
            | (go_at_call 81; refine (HO2.out _ (by first | exact hx0.drew | exact hx0)).mono ?_; rintro e z1 ⟨rfl, hz1, r0, r1⟩))
        all_goals
          have HK1 := Lib.hid (HK.out.trans hz1)
          clear hz1 r0 r1 a0 d0 d1 HO2 hx0
          go_wp2_with fail
          go_ret2
          exact ⟨HK1.out, .inl ⟨HE.out, rfl⟩⟩
    · obtain rfl : j = gs.length := by omega
      have HEnd : Hid (∃ os, standL ws l 0 gs = some os ∧ Own wr u6 os ∧ FreshV w u6 ∧ Kept [] w wr) := Lib.hid ⟨os, hr.out.1.done.1, hr.out.2.1, hr.out.2.2.1, hr.out.2.2.2⟩
      clear hr
      go_wp2_with fail
      go_ret2
      obtain ⟨os, z1, z2, z3, z4⟩ := HEnd.out
      exact ⟨z4, .inr ⟨os, u6, z1, rfl, z2, z3⟩⟩
/-- Settle, of a space. -/
theorem settle_ok (hG : Glob w s) (h : Spc w s l ws bs) (A : Option Addr) (gs : List Int) (ca : Nat) (hS : Ir.Seen w A gs) (hI : ∀ g ∈ gs, -9223372036854775808 ≤ g ∧ g ≤ 9223372036854775807) (hlen : gs.length ≤ 100000) :
    Calls Tryz.prog 83 #[.pointer (some ⟨s.sp, 0, none⟩), .slice A gs.length ca] w fun e w' => e = .returned (.int .i64 (settleE ws l gs)) ∧ Kept s.turn w w' ∧ ((standL ws l 0 gs = none ∧ Spc w' s l ws bs) ∨ ∃ os, standL ws l 0 gs = some os ∧ Spc w' s l (becomeW ws 0 os (gran ws)) (becomeB bs 0 os (gran ws))) := by
  have hsh := h.short
  have hgr : 0 ≤ gran ws ∧ gran ws ≤ 32768 := by unfold gran; omega
  have HSt := Lib.hid (standing_ok hG h A gs ca hS hI hlen)
  have HSp := Lib.hid h
  have HGl := Lib.hid hG
  have HSd := Lib.hid (fun (os : List Cel) (he : standL ws l 0 gs = some os) => standing_of he hgr.1)
  clear h hG hS hI
  go_enter Tryz.func83, Tryz.ntmps83
  go_wp2_with fail
  refine HSt.out.mono ?_
  rintro e x1 ⟨k1, ⟨z1, rfl⟩ | ⟨os, v, z1, rfl, hO, hV⟩⟩
  · have HE : Hid (settleE ws l gs = 2) := Lib.hid (by unfold settleE; rw [z1]; rfl)
    have HZ := Lib.hid z1
    have HK := Lib.hid k1
    clear z1 k1
    go_wp2_with fail
    go_ret
    exact ⟨ret_int HE.out.symm, HK.out.none _, .inl ⟨HZ.out, HSp.out.keep0 HK.out⟩⟩
  · have HE : Hid (settleE ws l gs = 0) := Lib.hid (by unfold settleE; rw [z1]; rfl)
    have hsd := HSd.out os z1
    have HZ := Lib.hid z1
    have HK := Lib.hid k1
    have hol : os.length ≤ 32768 := standing_most hsd (Int.le_refl _) (by omega)
    have hnear : Near os := fun c hc => by
      obtain ⟨m1, m2, m3, _⟩ := hsd.mem c hc
      have := can_sz m3
      omega
    obtain ⟨Av, cv, rfl, _⟩ := back_own (Kept.refl [] _) hO
    have HGr := Lib.hid (granules_ok (HSp.out.keep0 k1))
    have HB := Lib.hid (become_ok (HGl.out.keep0 k1).zero (HSp.out.keep0 k1) 0 (gran ws) (Int.le_refl _) (by omega) hgr.1 (by omega) Av cv os hO.seen (fun g o e hm => by
      have hS1 := HSp.out.keep0 k1
      rcases hO.form with ⟨hh, _⟩ | ⟨g', c', hh, _⟩
      · injection hh with hh; rw [hh] at e; cases e
      · injection hh with hh
        rw [hh] at e
        injection e with e
        injection e with e
        subst e
        obtain ⟨ds, hd⟩ := own_cells hO g' (by rw [hh]; simp [Value.ownBlock])
        exact hS1.beside hd (by decide) (by decide) (by decide) hm) hnear (by omega))
    clear z1 k1 hO hV hsd hnear HSd
    obtain ⟨G, hGG⟩ : ∃ G, G = gran ws := ⟨_, rfl⟩
    rw [← hGG] at HGr HB hgr
    have HGG := Lib.hid hGG
    clear hGG
    go_wp2_with fail
    refine HGr.out.mono ?_
    rintro e x2 ⟨rfl, rfl⟩
    go_wp2_with fail
    refine HB.out.mono ?_
    rintro e x3 ⟨⟨v3, rfl⟩, hS3, k3⟩
    have HF := Lib.hid (And.intro hS3 ((HK.out.none s.turn).trans k3))
    clear hS3 k3 HB HGr
    go_wp2_with fail
    go_ret
    exact ⟨ret_int HE.out.symm, HF.out.2, .inr ⟨os, HZ.out, by rw [← HGG.out]; exact HF.out.1⟩⟩
end
end Go.Proofs.YtoagghileebokaaGreatDoor.Sp
