/-
  Several texts in one: ShView, ShDocOf.
-/
import Derived.Test.YtdfnphgjjodfoaaGreatDoorG17
import Derived.Test.YtdfnphgjjodfoaaGreatDoorG16
import Derived.Test.YtdfnphgjjodfoaaGreatDoorG18
import Derived.Test.YtdfnphgjjodfoaaGreatDoorG21
import Derived.Test.YtdfnphgjjodfoaaGreatDoorG49
import Derived.RegionTactic
/-
  A view in memory; plain functions: what Of answers.
-/
namespace Go.Proofs.YtdfnphgjjodfoaaGreatDoor.Sh
open Go.RowKit Go.Proofs.YtdfnphgjjodfoaaGreatDoor.Ar
open Go.Proofs.YtdfnphgjjodfoaaGreatDoor.Hd (Hd Fields decE decH isHead headI head_ok fitL ofL)
open Go.Proofs.YtdfnphgjjodfoaaGreatDoor.Tb (Ty Tab getT hasT sizeE sizeT)
set_option linter.unusedVariables false

/-- A view of the object at the granule g: its block, the arena's block, header, type, number of slots. -/
structure View (w : World) (v p : Nat) (g : Int) (h : Hd) (t : Ty) (sl : Int) : Prop where
  row : Has w v 94 [.pointer (some ⟨p, 0, none⟩), .int .i64 g, .int .u8 h.tg, .int .i64 h.ty, .int .i64 h.ln, .int .i64 h.sz, .int .u8 (t.k : Int), .int .i64 t.wd, .int .u64 (t.ms : Int), .int .i64 sl]
namespace View
variable {w w' : World} {v p : Nat} {g : Int} {h : Hd} {t : Ty} {sl : Int}
theorem kept {S : List Nat} (H : View w v p g h t sl) (k : Kept S w w') (hv : v ∉ S) : View w' v p g h t sl := ⟨H.row.kept k hv⟩
theorem keep0 (H : View w v p g h t sl) (k : Kept [] w w') : View w' v p g h t sl := H.kept k (by simp)
theorem drewN (H : View w v p g h t sl) (n : Nat) : View (w.drewN n) v p g h t sl := ⟨H.row⟩
theorem cells (H : View w v p g h t sl) : w.cell? ⟨v, 0, none⟩ = some (.pointer (some ⟨p, 0, none⟩)) ∧ w.cell? ⟨v, 1, none⟩ = some (.int .i64 g) ∧ w.cell? ⟨v, 2, none⟩ = some (.int .u8 h.tg) ∧ w.cell? ⟨v, 3, none⟩ = some (.int .i64 h.ty) ∧ w.cell? ⟨v, 4, none⟩ = some (.int .i64 h.ln) ∧ w.cell? ⟨v, 5, none⟩ = some (.int .i64 h.sz)
    ∧ w.cell? ⟨v, 6, none⟩ = some (.int .u8 (t.k : Int)) ∧ w.cell? ⟨v, 7, none⟩ = some (.int .i64 t.wd) ∧ w.cell? ⟨v, 8, none⟩ = some (.int .u64 (t.ms : Int)) ∧ w.cell? ⟨v, 9, none⟩ = some (.int .i64 sl) :=
  ⟨H.row.cell 0, H.row.cell 1, H.row.cell 2, H.row.cell 3, H.row.cell 4, H.row.cell 5, H.row.cell 6, H.row.cell 7, H.row.cell 8, H.row.cell 9⟩
end View
/-- The error of Of. -/
def ofE (ws : List Int) (l : List Ty) (g : Int) : Int :=
  if hdE ws g ≠ 0 then hdE ws g else if (hdH ws g).tg ≠ 1 ∨ fitL l (hdH ws g) ≠ 0 ∨ inG ws.length g (hdH ws g).sz = false then 8 else 0
def ofT (ws : List Int) (l : List Ty) (g : Int) : Ty := getT l (hdH ws g).ty
def ofS (ws : List Int) (l : List Ty) (g : Int) : Int := Kd.slotsR (ofT ws l g).k (ofT ws l g).wd (ofT ws l g).ms (hdH ws g).ln
/-- What stands there, if Of answers a view. -/
structure Stand (ws : List Int) (l : List Ty) (g : Int) : Prop where
  he : hdE ws g = 0
  tag : (hdH ws g).tg = 1
  fit : fitL l (hdH ws g) = 0
  isin : inG ws.length g (hdH ws g).sz = true
theorem stand_of {ws : List Int} {l : List Ty} {g : Int} (h : ofE ws l g = 0) : Stand ws l g := by
  unfold ofE at h
  by_cases c : hdE ws g = 0
  · rw [if_neg (by simpa using c)] at h
    by_cases d : (hdH ws g).tg ≠ 1 ∨ fitL l (hdH ws g) ≠ 0 ∨ inG ws.length g (hdH ws g).sz = false
    · rw [if_pos d] at h; cases h
    · refine ⟨c, ?_, ?_, ?_⟩
      · exact Classical.byContradiction fun e => d (.inl e)
      · exact Classical.byContradiction fun e => d (.inr (.inl e))
      · cases e : inG ws.length g (hdH ws g).sz with
        | true => rfl
        | false => exact absurd (.inr (.inr e)) d
  · rw [if_pos c] at h
    exact absurd h c
end Go.Proofs.YtdfnphgjjodfoaaGreatDoor.Sh

/-
  The contract of the document's Of.
-/
namespace Go.Proofs.YtdfnphgjjodfoaaGreatDoor.Sh
open Go.RowKit Go.Proofs.YtdfnphgjjodfoaaGreatDoor.Ar
open Go.Proofs.YtdfnphgjjodfoaaGreatDoor.Hd (Hd Fields decE decH isHead headI head_ok fitL ofL dfits_row cells4 free4 put4 put4_has put4_kept size_head)
open Go.Proofs.YtdfnphgjjodfoaaGreatDoor.Tb (Ty getT hasT sizeE sizeT errT dget_ok cells3 free3 put3 put3_has put3_kept size_type)
set_option linter.unusedVariables false

theorem results_two {P : Program} {fn : Func} {p r u : Tmp} {ty tz : TypeId} (h : fn.results = #[.cell p ty, .cell r tz, .tmp u]) (tmps : Array Value) (w : World) (g k : Nat) (cs ds : Array Value) (d d' : TypeDesc)
    (hp : tmps.getD p undef = .pointer (some ⟨g, 0, none⟩)) (hr : tmps.getD r undef = .pointer (some ⟨k, 0, none⟩)) (hg : w.heap[g]? = some (.cells cs ty (0, 0))) (hk : w.heap[k]? = some (.cells ds tz (0, 0)))
    (hu : P.underlying ty = some d) (hd : (match d with | .struct _ | .array _ _ => true | _ => false) = true) (hi : (P.info? ty).map (·.size) = some cs.size)
    (hu' : P.underlying tz = some d') (hd' : (match d' with | .struct _ | .array _ _ => true | _ => false) = true) (hi' : (P.info? tz).map (·.size) = some ds.size) :
    (results fn tmps).run P w = .ok (.tuple #[.agg cs, .agg ds, tmps.getD u undef]) w := by
  have hp' : tmps[p]?.getD undef = .pointer (some ⟨g, 0, none⟩) := by simpa using hp
  have hr' : tmps[r]?.getD undef = .pointer (some ⟨k, 0, none⟩) := by simpa using hr
  simp [results, h, hp', hr', asAddr, run_loadVar_row w g ty ty cs (0, 0) d hg hu hd hi, run_loadVar_row w k tz tz ds (0, 0) d' hk hu' hd' hi']
theorem ret_two0 {f : Func} {p r u : Tmp} (h : f.results = #[.cell p 35, .cell r 68, .tmp u]) {a : Act} {X : World} {g k : Nat} {v0 v1 v2 v3 u0 u1 u2 : Value} (hp : a.tmps.getD p undef = .pointer (some ⟨g, 0, none⟩)) (hr : a.tmps.getD r undef = .pointer (some ⟨k, 0, none⟩))
    (hH : Has X g 35 [v0, v1, v2, v3]) (hT : Has X k 68 [u0, u1, u2])
    (hdf : a.defers = []) {E : Value} (hE : a.tmps.getD u undef = E) {R : Ending → World → Prop} (hR : R (.returned (.tuple #[.agg #[v0, v1, v2, v3], .agg #[u0, u1, u2], E])) X) : bodyPost Tryz.prog f R .ret a X := by
  refine bodyPost_ret ?_ hdf hR
  rw [← hE]
  exact results_two h a.tmps X g k #[v0, v1, v2, v3] #[u0, u1, u2] _ _ hp hr hH hT Tryz.underlying35 rfl size_head Tryz.underlying68 rfl size_type
section
variable {f : Func} {p r u : Tmp} {a : Act} {w0 w : World} {g k : Nat} {a0 a1 a2 a3 b0 b1 b2 v0 v1 v2 v3 u0 u1 u2 : Value}
/-- Four stores and three, then both are read. -/
theorem ret_two (h : f.results = #[.cell p 35, .cell r 68, .tmp u]) (hp : a.tmps.getD p undef = .pointer (some ⟨g, 0, none⟩)) (hr : a.tmps.getD r undef = .pointer (some ⟨k, 0, none⟩))
    (hH : Has w g 35 [a0, a1, a2, a3]) (hT : Has w k 68 [b0, b1, b2]) (hgk : g ≠ k) (hk : Kept [] w0 w) (hg : w0.heap.size ≤ g) (hkk : w0.heap.size ≤ k)
    (hdf : a.defers = []) {E : Value} (hE : a.tmps.getD u undef = E) {R : Ending → World → Prop}
    (hR : ∀ X, Kept [] w0 X → R (.returned (.tuple #[.agg #[v0, v1, v2, v3], .agg #[u0, u1, u2], E])) X) : bodyPost Tryz.prog f R .ret a (put3 k u0 u1 u2 (put4 g v0 v1 v2 v3 w)) := by
  have h1 := put4_has hH v0 v1 v2 v3
  have h2 : Has (put4 g v0 v1 v2 v3 w) k 68 [b0, b1, b2] := (((hT.beside _ (Ne.symm hgk) _).beside _ (Ne.symm hgk) _).beside _ (Ne.symm hgk) _).beside _ (Ne.symm hgk) _
  have h3 := put3_has h2 u0 u1 u2
  have h4 : Has (put3 k u0 u1 u2 (put4 g v0 v1 v2 v3 w)) g 35 [v0, v1, v2, v3] := ((h1.beside _ hgk _).beside _ hgk _).beside _ hgk _
  exact ret_two0 h hp hr h4 h3 hdf hE (hR _ (put3_kept (put4_kept hk (.inr hg) _ _ _ _) (.inr hkk) _ _ _))
/-- The same, behind one more draw. -/
theorem ret_twod (h : f.results = #[.cell p 35, .cell r 68, .tmp u]) (hp : a.tmps.getD p undef = .pointer (some ⟨g, 0, none⟩)) (hr : a.tmps.getD r undef = .pointer (some ⟨k, 0, none⟩))
    (hH : Has w g 35 [a0, a1, a2, a3]) (hT : Has w k 68 [b0, b1, b2]) (hgk : g ≠ k) (hk : Kept [] w0 w) (hg : w0.heap.size ≤ g) (hkk : w0.heap.size ≤ k)
    (hdf : a.defers = []) {E : Value} (hE : a.tmps.getD u undef = E) {R : Ending → World → Prop}
    (hR : ∀ X, Kept [] w0 X → R (.returned (.tuple #[.agg #[v0, v1, v2, v3], .agg #[u0, u1, u2], E])) X) : bodyPost Tryz.prog f R .ret a (put3 k u0 u1 u2 (put4 g v0 v1 v2 v3 w)).drew := by
  have h1 := put4_has hH v0 v1 v2 v3
  have h2 : Has (put4 g v0 v1 v2 v3 w) k 68 [b0, b1, b2] := (((hT.beside _ (Ne.symm hgk) _).beside _ (Ne.symm hgk) _).beside _ (Ne.symm hgk) _).beside _ (Ne.symm hgk) _
  have h3 := put3_has h2 u0 u1 u2
  have h4 : Has (put3 k u0 u1 u2 (put4 g v0 v1 v2 v3 w)) g 35 [v0, v1, v2, v3] := ((h1.beside _ hgk _).beside _ hgk _).beside _ hgk _
  exact ret_two0 h hp hr h4.drew h3.drew hdf hE (hR _ (put3_kept (put4_kept hk (.inr hg) _ _ _ _) (.inr hkk) _ _ _).drew)
end
def docH (ws : List Int) (l : List Ty) (g : Int) : Hd := if ofE ws l g = 0 then hdH ws g else Hd.zero
def docT (ws : List Int) (l : List Ty) (g : Int) : Ty := if ofE ws l g = 0 then ofT ws l g else Ty.zero
section
variable {w : World}
set_option maxRecDepth 100000 in
set_option maxHeartbeats 4000000 in
theorem dof_any {A B : Option Addr} {c d : Nat} {ws : List Int} {l : List Ty} (hS : Seen w A ws) (hl : ws.length ≤ 1099511627776) (hW : Wds ws) (hL : Tb.Seen w B l) (hok : ∀ x ∈ l, x.ok ∧ x.fit) (hlen : l.length ≤ 100000) (g : Int) :
    Calls Tryz.prog 104 #[.slice A ws.length c, .slice B l.length d, .int .i64 g] w fun e w' => e = .returned (.tuple #[(docH ws l g).val, (docT ws l g).val, .int .i64 (ofE ws l g)]) ∧ Kept [] w w' := by
  have HH := Lib.hid (fun y (k : Kept [] w y) => dhead_any (c := c) (hS.keep0 k) hl hW g)
  have k0 : Kept [] w ((w.alloc (.cells #[.int .u8 0, .int .i64 0, .int .i64 0, .int .i64 0] 35)).alloc (.cells #[.int .u8 0, .int .i64 0, .int .u64 0] 68)) := ((Kept.refl [] w).alloc _).alloc _
  have r0 : Has ((w.alloc (.cells #[.int .u8 0, .int .i64 0, .int .i64 0, .int .i64 0] 35)).alloc (.cells #[.int .u8 0, .int .i64 0, .int .u64 0] 68)) w.heap.size 35 [.int .u8 0, .int .i64 0, .int .i64 0, .int .i64 0] := (Has.new w 35 [.int .u8 0, .int .i64 0, .int .i64 0, .int .i64 0]).alloc _
  have s0 : Has ((w.alloc (.cells #[.int .u8 0, .int .i64 0, .int .i64 0, .int .i64 0] 35)).alloc (.cells #[.int .u8 0, .int .i64 0, .int .u64 0] 68)) (w.heap.size + 1) 68 [.int .u8 0, .int .i64 0, .int .u64 0] := by
    simpa using Has.new (w.alloc (.cells #[.int .u8 0, .int .i64 0, .int .i64 0, .int .i64 0] 35)) 68 [.int .u8 0, .int .i64 0, .int .u64 0]
  have hgk : w.heap.size ≠ w.heap.size + 1 := by omega
  have hge : w.heap.size ≤ w.heap.size + 1 := by omega
  have K0 := Lib.hid k0
  have R0 := Lib.hid (And.intro r0 (And.intro s0 (And.intro hgk hge)))
  clear k0 r0 s0 hgk hge
  have ed : (ws.length : Int).tdiv 2 = (ws.length : Int) / 2 := Int.tdiv_eq_ediv_of_nonneg (by omega)
  by_cases he : hdE ws g = 0
  · have ok := hdH_ok (g := g) hW
    have hgr : 0 ≤ g ∧ 1 ≤ (ws.length : Int) / 2 - g := by
      cases hx : inG ws.length g 1 with
      | true => exact (inG_iff _ _ _).1 hx
      | false => unfold hdE at he; rw [hx] at he; simp at he
    have HFt := Lib.hid (fun y (k : Kept [] w y) => dfits_row (c := d) (hL.keep0 k) hok hlen (hdH ws g) ok)
    have HG := Lib.hid (fun y (k : Kept [] w y) => dget_ok (c := d) (hL.keep0 k) hlen (hdH ws g).ty ok.t0 ok.t1)
    have hofE : ofE ws l g = if (hdH ws g).tg ≠ 1 ∨ fitL l (hdH ws g) ≠ 0 ∨ inG ws.length g (hdH ws g).sz = false then 8 else 0 := by unfold ofE; rw [if_neg (by simpa using he)]
    have hg : ofT ws l g = getT l (hdH ws g).ty := rfl
    rw [← hg] at HG
    rw [he] at HH
    unfold docH docT
    rw [hofE]
    have hz0 := ok.s0
    have hz1 := ok.s1
    have hin : inG ws.length g (hdH ws g).sz = decide ((hdH ws g).sz ≤ (ws.length : Int) / 2 - g) := by
      unfold inG
      rw [Bool.eq_iff_iff, decide_eq_true_iff, decide_eq_true_iff]
      exact ⟨fun h => h.2, fun h => ⟨hgr.1, h⟩⟩
    rw [hin]
    clear hofE hg he hL hS hW ok hok hin
    generalize hasT l (hdH ws g).ty = hh at *
    generalize hdH ws g = x at *
    generalize ofT ws l g = t at *
    generalize fitL l x = fe at *
    have HN : Hid (∀ y : World, Has (y.alloc (.cells #[.int .u8 x.tg, .int .i64 x.ty, .int .i64 x.ln, .int .i64 x.sz] 35)) y.heap.size 35 [.int .u8 x.tg, .int .i64 x.ty, .int .i64 x.ln, .int .i64 x.sz]) := Lib.hid fun y => Hd.Hd.new y _
    have HTn : Hid (∀ y : World, Has (y.alloc (.cells #[.int .u8 (t.k : Int), .int .i64 t.wd, .int .u64 (t.ms : Int)] 68)) y.heap.size 68 [.int .u8 (t.k : Int), .int .i64 t.wd, .int .u64 (t.ms : Int)]) := Lib.hid fun y => Has.new y _ _
    generalize ws.length = L at *
    unfold Hd.val Ty.val Hd.zero Ty.zero at *
    by_cases h1 : x.tg = 1
    · by_cases h2 : fe = 0
      · subst h2
        by_cases h3 : x.sz ≤ (L : Int) / 2 - g
        · have hcond : ¬ (x.tg ≠ 1 ∨ (0 : Int) ≠ 0 ∨ decide (x.sz ≤ (L : Int) / 2 - g) = false) := by simp [h1, h3]
          simp only [if_neg hcond, if_true]
          clear hcond
          generalize x.tg = xg at *
          subst h1
          generalize x.ty = xt at *
          generalize x.ln = xn at *
          generalize x.sz = xs at *
          go_enter Tryz.func104, Tryz.ntmps104
          go_wp2_with fail
          refine (HH.out _ K0.out).mono ?_
          rintro e x1 ⟨rfl, k1⟩
          have K1 := Lib.hid ((K0.out.trans k1).alloc (.cells #[.int .u8 1, .int .i64 xt, .int .i64 xn, .int .i64 xs] 35))
          have R1 := Lib.hid (And.intro ((R0.out.1.keep0 k1).alloc (.cells #[.int .u8 1, .int .i64 xt, .int .i64 xn, .int .i64 xs] 35)) ((R0.out.2.1.keep0 k1).alloc (.cells #[.int .u8 1, .int .i64 xt, .int .i64 xn, .int .i64 xs] 35)))
          have b1 := HN.out x1
          have hlt : w.heap.size + 1 < x1.heap.size := Nat.lt_of_lt_of_le (R0.out.2.1.lt) k1.more
          have n4 : w.heap.size ≠ x1.heap.size := by omega
          have n5 : w.heap.size + 1 ≠ x1.heap.size := by omega
          have n6 : w.heap.size ≠ w.heap.size + 1 := by omega
          clear hlt
          obtain ⟨c0, c1, c2, c3⟩ := cells4 b1
          have HB1 := Lib.hid b1
          clear k1 b1 HH HN
          go_wp2_with fail
          generalize x1.alloc (.cells #[.int .u8 1, .int .i64 xt, .int .i64 xn, .int .i64 xs] 35) = y1 at *
          generalize x1.heap.size = hb at *
          refine (HFt.out _ K1.out).mono ?_
          rintro e x2 ⟨rfl, k2⟩
          have K2 := Lib.hid (K1.out.trans k2)
          have b2 := HB1.out.keep0 k2
          have HB2 := Lib.hid b2
          have R2 := Lib.hid (And.intro (R1.out.1.keep0 k2) (R1.out.2.keep0 k2))
          clear k2 HFt K1 HB1 c0 c1 c2 c3 R1
          obtain ⟨c0, c1, c2, c3⟩ := cells4 b2
          clear b2
          go_wp2_with fail
          refine (HG.out _ K2.out).mono ?_
          rintro e x3 ⟨rfl, k3⟩
          have K3 := Lib.hid ((K2.out.trans k3).alloc (.cells #[.int .u8 (t.k : Int), .int .i64 t.wd, .int .u64 (t.ms : Int)] 68))
          have b3 := (HB2.out.keep0 k3).alloc (.cells #[.int .u8 (t.k : Int), .int .i64 t.wd, .int .u64 (t.ms : Int)] 68)
          have r3 := (R2.out.1.keep0 k3).alloc (.cells #[.int .u8 (t.k : Int), .int .i64 t.wd, .int .u64 (t.ms : Int)] 68)
          have s3 := (R2.out.2.keep0 k3).alloc (.cells #[.int .u8 (t.k : Int), .int .i64 t.wd, .int .u64 (t.ms : Int)] 68)
          have t3 := HTn.out x3
          have hlt : w.heap.size + 1 < x3.heap.size := Nat.lt_of_lt_of_le (R2.out.2.lt) k3.more
          have n1 : x3.heap.size ≠ w.heap.size := by omega
          have n2 : x3.heap.size ≠ w.heap.size + 1 := by omega
          clear k3 HG K2 HB2 c0 c1 c2 c3 HTn R2 hlt
          obtain ⟨c0, c1, c2, c3⟩ := cells4 b3
          obtain ⟨d0, d1, d2⟩ := cells3 t3
          obtain ⟨f0, f1, f2, f3⟩ := free4 r3
          obtain ⟨g0', g1', g2'⟩ := free3 s3
          obtain ⟨i0, i1, i2, i3⟩ := cells4 r3
          obtain ⟨j0, j1, j2⟩ := cells3 s3
          have HR3 := Lib.hid r3
          have HS3 := Lib.hid s3
          clear b3 t3 r3 s3
          generalize hy3 : x3.alloc (.cells #[.int .u8 (t.k : Int), .int .i64 t.wd, .int .u64 (t.ms : Int)] 68) = y3 at *
          go_wp2_with fail
          go_region
          all_goals go_wp2_with fail
          all_goals exact ret_twod rfl rfl rfl HR3.out HS3.out R0.out.2.2.1 K3.out (Nat.le_refl _) R0.out.2.2.2 rfl rfl fun X hX => ⟨rfl, hX⟩
        · have hcond : (x.tg ≠ 1 ∨ (0 : Int) ≠ 0 ∨ decide (x.sz ≤ (L : Int) / 2 - g) = false) := by simp [h3]
          simp only [if_pos hcond, show ¬ ((8 : Int) = 0) by decide, if_false]
          clear hcond
          generalize x.tg = xg at *
          subst h1
          generalize x.ty = xt at *
          generalize x.ln = xn at *
          generalize x.sz = xs at *
          go_enter Tryz.func104, Tryz.ntmps104
          go_wp2_with fail
          refine (HH.out _ K0.out).mono ?_
          rintro e x1 ⟨rfl, k1⟩
          have K1 := Lib.hid ((K0.out.trans k1).alloc (.cells #[.int .u8 1, .int .i64 xt, .int .i64 xn, .int .i64 xs] 35))
          have R1 := Lib.hid (And.intro ((R0.out.1.keep0 k1).alloc (.cells #[.int .u8 1, .int .i64 xt, .int .i64 xn, .int .i64 xs] 35)) ((R0.out.2.1.keep0 k1).alloc (.cells #[.int .u8 1, .int .i64 xt, .int .i64 xn, .int .i64 xs] 35)))
          have b1 := HN.out x1
          have hlt : w.heap.size + 1 < x1.heap.size := Nat.lt_of_lt_of_le (R0.out.2.1.lt) k1.more
          have n4 : w.heap.size ≠ x1.heap.size := by omega
          have n5 : w.heap.size + 1 ≠ x1.heap.size := by omega
          have n6 : w.heap.size ≠ w.heap.size + 1 := by omega
          clear hlt
          obtain ⟨c0, c1, c2, c3⟩ := cells4 b1
          have HB1 := Lib.hid b1
          clear k1 b1 HH HN
          go_wp2_with fail
          generalize x1.alloc (.cells #[.int .u8 1, .int .i64 xt, .int .i64 xn, .int .i64 xs] 35) = y1 at *
          generalize x1.heap.size = hb at *
          refine (HFt.out _ K1.out).mono ?_
          rintro e x2 ⟨rfl, k2⟩
          have K2 := Lib.hid (K1.out.trans k2)
          have b2 := HB1.out.keep0 k2
          have HB2 := Lib.hid b2
          have R2 := Lib.hid (And.intro (R1.out.1.keep0 k2) (R1.out.2.keep0 k2))
          clear k2 HFt K1 HB1 c0 c1 c2 c3 R1
          obtain ⟨c0, c1, c2, c3⟩ := cells4 b2
          clear b2
          obtain ⟨f0, f1, f2, f3⟩ := free4 R2.out.1
          obtain ⟨g0', g1', g2'⟩ := free3 R2.out.2
          obtain ⟨i0, i1, i2, i3⟩ := cells4 R2.out.1
          obtain ⟨j0, j1, j2⟩ := cells3 R2.out.2
          go_wp2_with fail
          exact ret_two rfl rfl rfl R2.out.1 R2.out.2 R0.out.2.2.1 K2.out (Nat.le_refl _) R0.out.2.2.2 rfl rfl fun X hX => ⟨rfl, hX⟩
      · have hcond : (x.tg ≠ 1 ∨ fe ≠ 0 ∨ decide (x.sz ≤ (L : Int) / 2 - g) = false) := .inr (.inl h2)
        simp only [if_pos hcond, show ¬ ((8 : Int) = 0) by decide, if_false]
        clear hcond
        have hb2 : (fe != 0) = true := by rw [bne_iff_ne]; exact h2
        generalize x.tg = xg at *
        subst h1
        generalize x.ty = xt at *
        generalize x.ln = xn at *
        generalize x.sz = xs at *
        go_enter Tryz.func104, Tryz.ntmps104
        go_wp2_with fail
        refine (HH.out _ K0.out).mono ?_
        rintro e x1 ⟨rfl, k1⟩
        have K1 := Lib.hid ((K0.out.trans k1).alloc (.cells #[.int .u8 1, .int .i64 xt, .int .i64 xn, .int .i64 xs] 35))
        have R1 := Lib.hid (And.intro ((R0.out.1.keep0 k1).alloc (.cells #[.int .u8 1, .int .i64 xt, .int .i64 xn, .int .i64 xs] 35)) ((R0.out.2.1.keep0 k1).alloc (.cells #[.int .u8 1, .int .i64 xt, .int .i64 xn, .int .i64 xs] 35)))
        have b1 := HN.out x1
        have hlt : w.heap.size + 1 < x1.heap.size := Nat.lt_of_lt_of_le (R0.out.2.1.lt) k1.more
        have n4 : w.heap.size ≠ x1.heap.size := by omega
        have n5 : w.heap.size + 1 ≠ x1.heap.size := by omega
        have n6 : w.heap.size ≠ w.heap.size + 1 := by omega
        clear hlt
        obtain ⟨c0, c1, c2, c3⟩ := cells4 b1
        have HB1 := Lib.hid b1
        clear k1 b1 HH HN
        go_wp2_with fail
        generalize x1.alloc (.cells #[.int .u8 1, .int .i64 xt, .int .i64 xn, .int .i64 xs] 35) = y1 at *
        generalize x1.heap.size = hb at *
        refine (HFt.out _ K1.out).mono ?_
        rintro e x2 ⟨rfl, k2⟩
        have K2 := Lib.hid (K1.out.trans k2)
        have b2 := HB1.out.keep0 k2
        have HB2 := Lib.hid b2
        have R2 := Lib.hid (And.intro (R1.out.1.keep0 k2) (R1.out.2.keep0 k2))
        clear k2 HFt K1 HB1 c0 c1 c2 c3 R1
        obtain ⟨c0, c1, c2, c3⟩ := cells4 b2
        clear b2
        obtain ⟨f0, f1, f2, f3⟩ := free4 R2.out.1
        obtain ⟨g0', g1', g2'⟩ := free3 R2.out.2
        obtain ⟨i0, i1, i2, i3⟩ := cells4 R2.out.1
        obtain ⟨j0, j1, j2⟩ := cells3 R2.out.2
        go_wp2_with fail
        exact ret_two rfl rfl rfl R2.out.1 R2.out.2 R0.out.2.2.1 K2.out (Nat.le_refl _) R0.out.2.2.2 rfl rfl fun X hX => ⟨rfl, hX⟩
    · have hcond : (x.tg ≠ 1 ∨ fe ≠ 0 ∨ decide (x.sz ≤ (L : Int) / 2 - g) = false) := .inl h1
      simp only [if_pos hcond, show ¬ ((8 : Int) = 0) by decide, if_false]
      clear hcond
      have hb1 : (x.tg != 1) = true := by rw [bne_iff_ne]; exact h1
      generalize x.tg = xg at *
      generalize x.ty = xt at *
      generalize x.ln = xn at *
      generalize x.sz = xs at *
      go_enter Tryz.func104, Tryz.ntmps104
      go_wp2_with fail
      refine (HH.out _ K0.out).mono ?_
      rintro e x1 ⟨rfl, k1⟩
      have K1 := Lib.hid ((K0.out.trans k1).alloc (.cells #[.int .u8 xg, .int .i64 xt, .int .i64 xn, .int .i64 xs] 35))
      have R1 := Lib.hid (And.intro ((R0.out.1.keep0 k1).alloc (.cells #[.int .u8 xg, .int .i64 xt, .int .i64 xn, .int .i64 xs] 35)) ((R0.out.2.1.keep0 k1).alloc (.cells #[.int .u8 xg, .int .i64 xt, .int .i64 xn, .int .i64 xs] 35)))
      have b1 := HN.out x1
      have hlt : w.heap.size + 1 < x1.heap.size := Nat.lt_of_lt_of_le (R0.out.2.1.lt) k1.more
      have n4 : w.heap.size ≠ x1.heap.size := by omega
      have n5 : w.heap.size + 1 ≠ x1.heap.size := by omega
      have n6 : w.heap.size ≠ w.heap.size + 1 := by omega
      clear hlt
      obtain ⟨c0, c1, c2, c3⟩ := cells4 b1
      have HB1 := Lib.hid b1
      clear k1 b1 HH HN
      obtain ⟨f0, f1, f2, f3⟩ := free4 R1.out.1
      obtain ⟨g0', g1', g2'⟩ := free3 R1.out.2
      obtain ⟨i0, i1, i2, i3⟩ := cells4 R1.out.1
      obtain ⟨j0, j1, j2⟩ := cells3 R1.out.2
      go_wp2_with fail
      exact ret_two rfl rfl rfl R1.out.1 R1.out.2 R0.out.2.2.1 K1.out (Nat.le_refl _) R0.out.2.2.2 rfl rfl fun X hX => ⟨rfl, hX⟩
  · have hofE : ofE ws l g = hdE ws g := by unfold ofE; rw [if_pos he]
    have hz : docH ws l g = Hd.zero ∧ docT ws l g = Ty.zero := ⟨by unfold docH; rw [if_neg (by rw [hofE]; exact he)], by unfold docT; rw [if_neg (by rw [hofE]; exact he)]⟩
    rw [hofE, hz.1, hz.2]
    have hb1 : (hdE ws g != 0) = true := by rw [bne_iff_ne]; exact he
    clear hofE hz hL hS hW hok
    generalize hdE ws g = er at *
    generalize hdH ws g = x at *
    generalize ws.length = L at *
    unfold Hd.val Ty.val Hd.zero Ty.zero at *
    generalize x.tg = xg at *
    generalize x.ty = xt at *
    generalize x.ln = xn at *
    generalize x.sz = xs at *
    go_enter Tryz.func104, Tryz.ntmps104
    go_wp2_with fail
    refine (HH.out _ K0.out).mono ?_
    rintro e x1 ⟨rfl, k1⟩
    have K1 := Lib.hid ((K0.out.trans k1).alloc (.cells #[.int .u8 xg, .int .i64 xt, .int .i64 xn, .int .i64 xs] 35))
    have R1 := Lib.hid (And.intro ((R0.out.1.keep0 k1).alloc (.cells #[.int .u8 xg, .int .i64 xt, .int .i64 xn, .int .i64 xs] 35)) ((R0.out.2.1.keep0 k1).alloc (.cells #[.int .u8 xg, .int .i64 xt, .int .i64 xn, .int .i64 xs] 35)))
    have hlt : w.heap.size + 1 < x1.heap.size := Nat.lt_of_lt_of_le (R0.out.2.1.lt) k1.more
    have n4 : w.heap.size ≠ x1.heap.size := by omega
    have n5 : w.heap.size + 1 ≠ x1.heap.size := by omega
    have n6 : w.heap.size ≠ w.heap.size + 1 := by omega
    clear k1 HH hlt
    obtain ⟨f0, f1, f2, f3⟩ := free4 R1.out.1
    obtain ⟨g0', g1', g2'⟩ := free3 R1.out.2
    obtain ⟨i0, i1, i2, i3⟩ := cells4 R1.out.1
    obtain ⟨j0, j1, j2⟩ := cells3 R1.out.2
    go_wp2_with fail
    exact ret_two rfl rfl rfl R1.out.1 R1.out.2 R0.out.2.2.1 K1.out (Nat.le_refl _) R0.out.2.2.2 rfl rfl fun X hX => ⟨rfl, hX⟩
end
end Go.Proofs.YtdfnphgjjodfoaaGreatDoor.Sh
