/-
  Several texts in one: SpBecome, SpLay.
-/
import Derived.Test.YtoagghileebokaaGreatDoorG22
import Derived.Deep.RegionHeld3
import Derived.StillTail
import Derived.StillTailTactics
/-
  The contracts of the closure that lays a gap, of between, and of become.
-/
namespace Go.Proofs.YtoagghileebokaaGreatDoor.Sp
open Go.RowKit Go.Proofs.YtoagghileebokaaGreatDoor.Ar Go.Proofs.YtoagghileebokaaGreatDoor.Sh
open Go.Proofs.YtoagghileebokaaGreatDoor.Hd (Hd Fields)
open Go.Proofs.YtoagghileebokaaGreatDoor.Tb (Ty Tab blk)
open Go.Proofs.YtoagghileebokaaGreatDoor.Bt (Bv layB clearRun_ok set_ok)
open Go.Proofs.YtoagghileebokaaGreatDoor.Wd (Table)
set_option linter.unusedVariables false

/-- The constant tables stand, and are none of a space's blocks that may turn. -/
structure Glob (w : World) (s : Ids) : Prop where
  f : Fields w
  t : Table w
  nf : 0 ∉ s.turn
  nt : 1 ∉ s.turn
theorem Glob.kept {w w' : World} {s : Ids} (h : Glob w s) (k : Kept s.turn w w') : Glob w' s := by
  refine ⟨h.f.kept k fun i hi e => h.nf (e ▸ hi), fun i hi => ?_, h.nf, h.nt⟩
  have hc := h.t i hi
  have hlt : 1 < w.heap.size := by
    rcases Nat.lt_or_ge (1) w.heap.size with k | k
    · exact k
    · exfalso
      have hn : w.heap[1]? = none := Array.getElem?_eq_none k
      simp [World.cell?, hn] at hc
  rw [World.cell?_of_block (w := w) (k.old _ hlt h.nt)]
  exact hc
theorem Glob.keep0 {w w' : World} {s : Ids} (h : Glob w s) (k : Kept [] w w') : Glob w' s := h.kept (k.none _)
/-- The head's table alone (a law that reaches no more lists no more). -/
structure Glob0 (w : World) (s : Ids) : Prop where
  f : Fields w
  nf : 0 ∉ s.turn
theorem Glob0.kept {w w' : World} {s : Ids} (h : Glob0 w s) (k : Kept s.turn w w') : Glob0 w' s := ⟨h.f.kept k fun i hi e => h.nf (e ▸ hi), h.nf⟩
theorem Glob0.keep0 {w w' : World} {s : Ids} (h : Glob0 w s) (k : Kept [] w w') : Glob0 w' s := h.kept (k.none _)
theorem Glob.zero {w : World} {s : Ids} (h : Glob w s) : Glob0 w s := ⟨h.f, h.nf⟩
section
variable {w : World} {s : Ids} {l : List Ty} {ws : List Int} {bs : List Bool}
set_option maxRecDepth 100000 in
set_option maxHeartbeats 4000000 in
theorem layGap_ok (hG : Glob0 w s) (h : Spc w s l ws bs) {bx : Nat} (hb : Has w bx 29 [.pointer (some ⟨s.sp, 0, none⟩)]) (g z : Int) (g0 : 0 ≤ g) (g1 : g ≤ 1000000) (z0 : -9223372036854775808 ≤ z) (z1 : z ≤ 9223372036854775807) :
    Calls Tryz.prog 68 #[.int .i64 g, .int .i64 z, .pointer (some ⟨bx, 0, none⟩)] w fun e w' => (∃ v, e = .returned v) ∧ Spc w' s l (setG ws g (gapW z)) bs ∧ Kept [s.ap, s.aq] w w' := by
  obtain ⟨m, ha⟩ := h.ar
  have H := Lib.hid h
  have Hb := Lib.hid hb
  have c0 := hb.cell 0
  simp at c0
  have c1 := h.cells.1
  have nb : bx ∉ [s.ap, s.aq] := by simpa using ⟨Has.block_type hb ha.head (by decide), Has.block_type hb ha.row (by decide)⟩
  have ns : s.sp ∉ [s.ap, s.aq] := by simpa using ⟨Has.block_type h.head ha.head (by decide), Has.block_type h.head ha.row (by decide)⟩
  have C1 : Hid (∀ y, Kept [] w y → Calls Tryz.prog 70 #[.int .i64 z] y fun e x => e = .returned (.int .u64 (gapW z)) ∧ Kept [] w x ∧ (x.cell? ⟨bx, 0, none⟩ = some (.pointer (some ⟨s.sp, 0, none⟩)) ∧ x.cell? ⟨s.sp, 0, none⟩ = some (.pointer (some ⟨s.ap, 0, none⟩)))) :=
    Lib.hid fun y hy => (gapWord_ok (hG.f.keep0 hy) z z0 z1).mono fun e x ⟨he, hk⟩ => ⟨he, hy.trans hk, by have := (Hb.out.keep0 (hy.trans hk)).cell 0; simpa using this, (H.out.keep0 (hy.trans hk)).cells.1⟩
  have C2 : Hid (∀ x y, Kept [] w x → Kept [] x y → Calls Tryz.prog 69 #[.pointer (some ⟨s.ap, 0, none⟩), .int .i64 (g * 2), .int .u64 (gapW z)] y fun e x => (∃ v, e = .returned v) ∧ Spc x s l (setG ws g (gapW z)) bs ∧ Kept [s.ap, s.aq] w x ∧ (x.cell? ⟨bx, 0, none⟩ = some (.pointer (some ⟨s.sp, 0, none⟩)) ∧ x.cell? ⟨s.sp, 0, none⟩ = some (.pointer (some ⟨s.ap, 0, none⟩)))) :=
    Lib.hid fun x y hx hy => by
      have hxy := hx.trans hy
      refine (store_any (ha.keep0 hxy) (g * 2) (gapW z) (by omega) (by omega)).mono ?_
      rintro e x2 ⟨he, hA, hk⟩
      have hS := (H.out.keep0 hxy).arena (ws' := setG ws g (gapW z)) hk ⟨_, by unfold setG; rw [Int.mul_comm]; exact hA⟩ (setG_wm h.wm (gapW_range z))
      refine ⟨⟨_, he⟩, hS, (hxy.none _).trans hk, ?_, hS.cells.1⟩
      have := ((Hb.out.keep0 hxy).kept hk nb).cell 0
      simpa using this
  have hw2 : IntKind.i64.wrap (g * 2) = g * 2 := by rw [IntKind.wrap_i64]; omega
  clear h hb ha nb ns hG
  generalize gapW z = u at *
  generalize setG ws g u = ws2 at *
  generalize s.sp = sp at *
  go_enter Tryz.func68, Tryz.ntmps68
  go_wp2_with fail
  go_region_held3 (fun y => y.cell? ⟨bx, 0, none⟩ = some (.pointer (some ⟨sp, 0, none⟩)) ∧ y.cell? ⟨sp, 0, none⟩ = some (.pointer (some ⟨s.ap, 0, none⟩))) (go_keep)
    (first
      | (go_at_call 70; refine (C1.out _ ?_).mono ?_; (first | exact Kept.refl _ _ | exact (Kept.refl _ _).drewN _); rintro e z1 ⟨rfl, hz1, r0, r1⟩)
      | (go_at_call 69; refine (C2.out _ _ hz1 ?_).mono ?_; (first | exact Kept.refl _ _ | exact (Kept.refl _ _).drewN _); rintro e z2 ⟨⟨v2, rfl⟩, hS2, hz2, s0, s1⟩))
  all_goals
    have HS2 := Lib.hid hS2
    have HZ2 := Lib.hid hz2
    clear hz1 hS2 hz2
    go_wp2_with fail
    go_end0
    exact ⟨⟨_, rfl⟩, HS2.out, HZ2.out⟩
theorem sub_turn (s : Ids) : ∀ i ∈ [s.ap, s.aq], i ∈ s.turn := fun i hi => by
  simp at hi
  simp [Ids.turn]
  omega
theorem cel_drop {l : List Cel} {j : Nat} (h : j < l.length) : l.drop j = l.getD j Cel.zero :: l.drop (j + 1) := by
  rw [List.drop_eq_getElem_cons h, List.getD_eq_getElem?_getD, List.getElem?_eq_getElem h]
  rfl
theorem cel_mem {l : List Cel} {j : Nat} (h : j < l.length) : l.getD j Cel.zero ∈ l := by
  rw [List.getD_eq_getElem?_getD, List.getElem?_eq_getElem h]
  exact List.getElem_mem h
/-- Objects that stand within reach. -/
def Near (os : List Cel) : Prop := ∀ c ∈ os, (0 ≤ c.a ∧ c.a ≤ 100000) ∧ 0 ≤ c.h.sz ∧ c.h.sz ≤ 100000
set_option maxRecDepth 100000 in
set_option maxHeartbeats 4000000 in
theorem between_ok (hG : Glob0 w s) (h : Spc w s l ws bs) {bx : Nat} (hb : Has w bx 29 [.pointer (some ⟨s.sp, 0, none⟩)]) (f e : Int) (f0 : 0 ≤ f) (f1 : f ≤ 300000) (e0 : 0 ≤ e) (e1 : e ≤ 300000)
    (A : Option Addr) (cap : Nat) (os : List Cel) (hA : Seen w A os) (hnA : ∀ g o, A = some ⟨g, o, none⟩ → g ∉ s.turn) (hos : Near os) (hlen : os.length ≤ 100000) :
    Calls Tryz.prog 67 #[.int .i64 f, .int .i64 e, .slice A os.length cap, .func (.func 68) #[] #[.pointer (some ⟨bx, 0, none⟩)]] w fun en w' => (∃ v, en = .returned v) ∧ Spc w' s l (becomeW ws f os e) bs ∧ Kept [s.ap, s.aq] w w' := by
  obtain ⟨m, ha⟩ := h.ar
  have nb : bx ∉ [s.ap, s.aq] := by simpa using ⟨Has.block_type hb ha.head (by decide), Has.block_type hb ha.row (by decide)⟩
  have HL : Hid (∀ y ws' (g z : Int), Kept [s.ap, s.aq] w y → Spc y s l ws' bs → 0 ≤ g → g ≤ 1000000 → -9223372036854775808 ≤ z → z ≤ 9223372036854775807 → Calls Tryz.prog 68 #[.int .i64 g, .int .i64 z, .pointer (some ⟨bx, 0, none⟩)] y fun e w' => (∃ v, e = .returned v) ∧ Spc w' s l (setG ws' g (gapW z)) bs ∧ Kept [s.ap, s.aq] w w' ∧ Kept [s.ap, s.aq] y w') :=
    Lib.hid fun y ws' g z k hS g0 g1 z0 z1 => (layGap_ok (hG.kept (k.mono (sub_turn s))) hS (hb.kept k nb) g z g0 g1 z0 z1).mono fun e x ⟨a, b, c⟩ => ⟨a, b, k.trans c, c⟩
  have HA : Hid (∀ y, Kept [s.ap, s.aq] w y → Seen y A os) := Lib.hid fun y k => hA.keep (fun g o e hg => k.old g hg fun hm => hnA g o e (sub_turn s g hm)) k.more
  have HOS := Lib.hid hos
  have HS0 : Hid (becomeW ws f os e = becomeW ws f (os.drop 0) e ∧ Spc w s l ws bs ∧ Kept [s.ap, s.aq] w w) := Lib.hid ⟨rfl, h, Kept.refl _ _⟩
  clear hG h hb hA hnA hos nb ha
  go_enter Tryz.func67, Tryz.ntmps67
  go_wp2_with fail
  go_loopw [0, 12] (fun v t wr => ∃ (j : Nat) (a : Int) (ws' : List Int), v = .int .i64 a ∧ t = .int .i64 (j : Int) ∧ j ≤ os.length ∧ 0 ≤ a ∧ a ≤ 300000 ∧ Hid (becomeW ws f os e = becomeW ws' a (os.drop j) e ∧ Spc wr s l ws' bs ∧ Kept [s.ap, s.aq] w wr)) (fun _ t _ => os.length - (intOf t).toNat)
  case atStart => exact ⟨0, f, ws, rfl, rfl, Nat.zero_le _, f0, f1, HS0⟩
  case round =>
    obtain ⟨j, a, ws', rfl, rfl, hj, a0, a1, hr⟩ := hrel
    clear HS0
    by_cases hlt : j < os.length
    · obtain ⟨g, o, rfl, hg, c0, c1, c2, c3, c4⟩ := (HA.out _ hr.out.2.2).at j hlt _ rfl
      have hn := HOS.out _ (cel_mem hlt)
      have HX := Lib.hid (cel_drop hlt)
      generalize hx : os.getD j Cel.zero = x at HX hn c0 c1 c2 c3 c4
      clear hx
      have HBh := Lib.hid (fun X => behind_ok x (by omega) (by omega) (by omega) (by omega) X)
      obtain ⟨xa, ⟨xt, xy, xl, xz⟩⟩ := x
      simp only at *
      unfold Cel.val at HBh
      simp only at HBh
      have hwr : Kept [] wr (wr.alloc (.cells #[.int .i64 xa, .int .u8 xt, .int .i64 xy, .int .i64 xl, .int .i64 xz] 51)) := (Kept.refl [] wr).alloc _
      have hB := Has.new wr 51 [.int .i64 xa, .int .u8 xt, .int .i64 xy, .int .i64 xl, .int .i64 xz]
      obtain ⟨d0, d1, d2, d3, d4⟩ := cells5 hB
      have HB := Lib.hid hB
      have HWR := Lib.hid hwr
      clear hB hwr
      by_cases hab : a < xa
      · have HN : Hid (becomeW ws f os e = becomeW (setG ws' a (gapW (xa - a))) (xa + xz) (os.drop (j + 1)) e) := Lib.hid (by
          rw [hr.out.1, HX.out]
          show becomeW (gapS ws' a xa) _ _ _ = _
          unfold gapS
          rw [if_pos hab])
        have HC := Lib.hid (HL.out _ ws' a (xa - a) ((hr.out.2.2).trans (HWR.out.none _)) (hr.out.2.1.keep0 HWR.out) a0 (by omega) (by omega) (by omega))
        have hnb : wr.heap.size ∉ [s.ap, s.aq] := fun hm => by
          have := hr.out.2.1.turn_lt _ (sub_turn s _ hm)
          omega
        have Hnb := Lib.hid hnb
        clear hnb hr HX
        go_wp2_with fail
        refine HC.out.mono ?_
        rintro e2 w2 ⟨⟨v2, rfl⟩, hS2, hK2, hk2⟩
        have hb2 := HB.out.kept hk2 Hnb.out
        clear d0 d1 d2 d3 d4 HC
        obtain ⟨d0, d1, d2, d3, d4⟩ := cells5 hb2
        have HS2 := Lib.hid hS2
        have HK2 := Lib.hid hK2
        clear hS2 hK2 hk2 hb2 HB
        go_wp2_with fail
        refine (HBh.out _).mono ?_
        rintro e3 w3 ⟨rfl, hk3⟩
        have HR : Hid (becomeW ws f os e = becomeW (setG ws' a (gapW (xa - a))) (xa + xz) (os.drop (j + 1)) e ∧ Spc w3 s l (setG ws' a (gapW (xa - a))) bs ∧ Kept [s.ap, s.aq] w w3) :=
          Lib.hid ⟨HN.out, HS2.out.keep0 hk3, HK2.out.trans (hk3.none _)⟩
        clear hk3 HS2 HK2 HN d0 d1 d2 d3 d4 HBh
        go_wp2_with fail
        go_roundw
        case rel => exact ⟨j + 1, xa + xz, _, rfl, by go_num, by omega, by omega, by omega, HR⟩
        case measure => simp [intOf] <;> omega
      · have HN : Hid (becomeW ws f os e = becomeW ws' (xa + xz) (os.drop (j + 1)) e) := Lib.hid (by
          rw [hr.out.1, HX.out]
          show becomeW (gapS ws' a xa) _ _ _ = _
          unfold gapS
          rw [if_neg hab])
        have HS2 := Lib.hid (hr.out.2.1.keep0 HWR.out)
        have HK2 := Lib.hid (hr.out.2.2.trans (HWR.out.none _))
        have hge : xa ≤ a := by omega
        clear hr HX HB hab
        go_wp2_with fail
        refine (HBh.out _).mono ?_
        rintro e3 w3 ⟨rfl, hk3⟩
        have HR : Hid (becomeW ws f os e = becomeW ws' (xa + xz) (os.drop (j + 1)) e ∧ Spc w3 s l ws' bs ∧ Kept [s.ap, s.aq] w w3) :=
          Lib.hid ⟨HN.out, HS2.out.keep0 hk3, HK2.out.trans (hk3.none _)⟩
        clear hk3 HS2 HK2 HN d0 d1 d2 d3 d4 HBh
        go_wp2_with fail
        go_roundw
        case rel => exact ⟨j + 1, xa + xz, _, rfl, by go_num, by omega, by omega, by omega, HR⟩
        case measure => simp [intOf] <;> omega
    · obtain rfl : j = os.length := by omega
      have HN : Hid (becomeW ws f os e = gapS ws' a e) := Lib.hid (by rw [hr.out.1, List.drop_length]; rfl)
      by_cases hab : a < e
      · have HC := Lib.hid (HL.out _ ws' a (e - a) hr.out.2.2 hr.out.2.1 a0 (by omega) (by omega) (by omega))
        clear hr
        go_wp2_with fail
        refine HC.out.mono ?_
        rintro e2 w2 ⟨⟨v2, rfl⟩, hS2, hK2, hk2⟩
        have HR : Hid (Spc w2 s l (becomeW ws f os e) bs ∧ Kept [s.ap, s.aq] w w2) := Lib.hid ⟨by rw [HN.out]; unfold gapS; rw [if_pos hab]; exact hS2, hK2⟩
        clear hS2 hK2 hk2 HN
        go_wp2_with fail
        go_end0
        exact ⟨⟨_, rfl⟩, HR.out.1, HR.out.2⟩
      · have HR : Hid (Spc wr s l (becomeW ws f os e) bs ∧ Kept [s.ap, s.aq] w wr) := Lib.hid ⟨by rw [HN.out]; unfold gapS; rw [if_neg hab]; exact hr.out.2.1, hr.out.2.2⟩
        clear hr HN
        go_wp2_with fail
        go_end0
        exact ⟨⟨_, rfl⟩, HR.out.1, HR.out.2⟩
end
end Go.Proofs.YtoagghileebokaaGreatDoor.Sp

/-
  The contract of become: a range of granules has these objects from then on, and gaps between them.
-/
namespace Go.Proofs.YtoagghileebokaaGreatDoor.Sp
open Go.RowKit Go.Proofs.YtoagghileebokaaGreatDoor.Ar Go.Proofs.YtoagghileebokaaGreatDoor.Sh
open Go.Proofs.YtoagghileebokaaGreatDoor.Hd (Hd Fields)
open Go.Proofs.YtoagghileebokaaGreatDoor.Tb (Ty Tab blk)
open Go.Proofs.YtoagghileebokaaGreatDoor.Bt (Bv layB clearRun_ok set_ok)
open Go.Proofs.YtoagghileebokaaGreatDoor.Wd (Table)
set_option linter.unusedVariables false

theorem sub_turn' (s : Ids) : ∀ i ∈ [s.bq], i ∈ s.turn := fun i hi => by
  simp at hi
  simp [Ids.turn]
  omega
theorem cel_take {l : List Cel} {j : Nat} (h : j < l.length) : l.take (j + 1) = l.take j ++ [l.getD j Cel.zero] := by
  rw [List.take_add_one, List.getD_eq_getElem?_getD, List.getElem?_eq_getElem h]
  rfl
section
variable {w : World} {s : Ids} {l : List Ty} {ws : List Int} {bs : List Bool}
set_option maxRecDepth 100000 in
set_option maxHeartbeats 4000000 in
theorem become_ok (hG : Glob0 w s) (h : Spc w s l ws bs) (f e : Int) (f0 : 0 ≤ f) (f1 : f ≤ 300000) (e0 : 0 ≤ e) (e1 : e ≤ 300000)
    (A : Option Addr) (cap : Nat) (os : List Cel) (hA : Seen w A os) (hnA : ∀ g o, A = some ⟨g, o, none⟩ → g ∉ s.turn) (hos : Near os) (hlen : os.length ≤ 100000) :
    Calls Tryz.prog 41 #[.pointer (some ⟨s.sp, 0, none⟩), .int .i64 f, .int .i64 e, .slice A os.length cap] w fun en w' => (∃ v, en = .returned v) ∧ Spc w' s l (becomeW ws f os e) (becomeB bs f os e) ∧ Kept s.turn w w' := by
  have k0 : Kept [] w (w.alloc (.cells #[.pointer (some ⟨s.sp, 0, none⟩)] 29)) := (Kept.refl [] w).alloc _
  have hb := Has.new w 29 [.pointer (some ⟨s.sp, 0, none⟩)]
  have h0 := h.keep0 k0
  have c0 := hb.cell 0
  simp at c0
  have c2 := h0.cells.2.2
  have HG : Hid (∀ y, Kept s.turn w y → Glob0 y s) := Lib.hid fun y k => hG.kept k
  have HA : Hid (∀ y, Kept s.turn w y → Seen y A os) := Lib.hid fun y k => hA.keep (fun g o e hg => k.old g hg fun hm => hnA g o e hm) k.more
  have HC := Lib.hid (clearRun_ok bs _ _ _ h0.bv f (e - f) (by omega) (by omega) (by omega) (by omega))
  have HOS := Lib.hid hos
  have HNA := Lib.hid hnA
  have K0 : Hid (Kept s.turn w (w.alloc (.cells #[.pointer (some ⟨s.sp, 0, none⟩)] 29))) := Lib.hid (k0.none _)
  have H0 := Lib.hid h0
  have HB := Lib.hid hb
  clear hG h hb hA hnA hos h0 k0
  go_enter Tryz.func41, Tryz.ntmps41
  go_wp2_with fail
  generalize w.alloc (.cells #[.pointer (some ⟨s.sp, 0, none⟩)] 29) = w0 at *
  generalize w.heap.size = bx at *
  refine HC.out.mono ?_
  rintro en w1 ⟨rfl, hv1, hk1⟩
  have hS1 := H0.out.bits hk1 hv1
  have hb1 : Has w1 bx 29 [.pointer (some ⟨s.sp, 0, none⟩)] := HB.out.kept hk1 fun hm => H0.out.beside HB.out (by decide) (by decide) (by decide) (sub_turn' s _ hm)
  have HR : Hid (Spc w1 s l ws (setAll (layB bs f (e - f) false) (os.take 0)) ∧ Kept s.turn w w1 ∧ Has w1 bx 29 [.pointer (some ⟨s.sp, 0, none⟩)]) := Lib.hid ⟨hS1, K0.out.trans (hk1.mono (sub_turn' s)), hb1⟩
  clear hv1 hk1 hS1 hb1 HC H0 HB K0 c0 c2
  go_wp2_with fail
  go_loopw [21] (fun t wr => ∃ j : Nat, t = .int .i64 (j : Int) ∧ j ≤ os.length ∧ Hid (Spc wr s l ws (setAll (layB bs f (e - f) false) (os.take j)) ∧ Kept s.turn w wr ∧ Has wr bx 29 [.pointer (some ⟨s.sp, 0, none⟩)])) (fun t _ => os.length - (intOf t).toNat)
  case atStart => exact ⟨0, rfl, Nat.zero_le _, HR⟩
  case round =>
    obtain ⟨j, rfl, hj, hr⟩ := hrel
    clear HR
    by_cases hlt : j < os.length
    · obtain ⟨g, o, rfl, hg, c0, c1, c2, c3, c4⟩ := (HA.out _ hr.out.2.1).at j hlt _ rfl
      have hn := HOS.out _ (cel_mem hlt)
      have HX : Hid (setAll (layB bs f (e - f) false) (os.take (j + 1)) = layB (setAll (layB bs f (e - f) false) (os.take j)) (os.getD j Cel.zero).a 1 true) := Lib.hid (by rw [cel_take hlt, setAll_snoc])
      generalize hx : os.getD j Cel.zero = x at HX hn c0 c1 c2 c3 c4
      clear hx
      obtain ⟨xa, ⟨xt, xy, xl, xz⟩⟩ := x
      simp only at *
      have hwr : Kept [] wr (wr.alloc (.cells #[.int .i64 xa, .int .u8 xt, .int .i64 xy, .int .i64 xl, .int .i64 xz] 51)) := (Kept.refl [] wr).alloc _
      have hB := Has.new wr 51 [.int .i64 xa, .int .u8 xt, .int .i64 xy, .int .i64 xl, .int .i64 xz]
      have HWR := Lib.hid hwr
      have HB := Lib.hid hB
      clear hB hwr
      go_wp2_with fail
      obtain ⟨d0, d1, d2, d3, d4⟩ := cells5 HB.out
      have S1 := Lib.hid (hr.out.1.keep0 HWR.out)
      have B1 := Lib.hid (hr.out.2.2.keep0 HWR.out)
      have K1 := Lib.hid (hr.out.2.1.trans (HWR.out.none _))
      have b0 := B1.out.cell 0
      simp at b0
      have s2 := S1.out.cells.2.2
      clear hr c0 c1 c2 c3 c4
      generalize wr.alloc (.cells #[.int .i64 xa, .int .u8 xt, .int .i64 xy, .int .i64 xl, .int .i64 xz] 51) = w2 at *
      generalize wr.heap.size = b9 at *
      go_still_tail 6, (by kernel_rfl)
      change wpList _ _ _ _ _ w2.drew
      have hk3 : Kept [] w2 w2.drew := (Kept.refl [] w2).drew
      clear d0 d1 d2 d3 d4 b0 s2
      generalize w2.drew = w3 at hk3 ⊢
      have HS := Lib.hid (set_ok _ _ _ w3 (S1.out.keep0 hk3).bv xa (by omega) (by omega))
      have S3 := Lib.hid (S1.out.keep0 hk3)
      have B3 := Lib.hid (B1.out.keep0 hk3)
      have K3 := Lib.hid (K1.out.trans (hk3.none _))
      clear hk3 S1 B1 K1
      go_wp2_with fail
      refine HS.out.mono ?_
      rintro en w4 ⟨rfl, hv4, hk4⟩
      have HR : Hid (Spc w4 s l ws (setAll (layB bs f (e - f) false) (os.take (j + 1))) ∧ Kept s.turn w w4 ∧ Has w4 bx 29 [.pointer (some ⟨s.sp, 0, none⟩)]) :=
        Lib.hid ⟨S3.out.bits hk4 (by rw [HX.out]; exact hv4), K3.out.trans (hk4.mono (sub_turn' s)), B3.out.kept hk4 fun hm => S3.out.beside B3.out (by decide) (by decide) (by decide) (sub_turn' s _ hm)⟩
      clear hv4 hk4 HS S3 B3 K3
      go_wp2_with fail
      go_roundw
      case rel => exact ⟨j + 1, by go_num, by omega, HR⟩
      case measure => simp [intOf] <;> omega
    · obtain rfl : j = os.length := by omega
      have HBt : Hid (∃ ws', ws' = becomeW ws f os e ∧ Calls Tryz.prog 67 #[.int .i64 f, .int .i64 e, .slice A os.length cap, .func (.func 68) #[] #[.pointer (some ⟨bx, 0, none⟩)]] wr fun en w' => (∃ v, en = .returned v) ∧ Spc w' s l ws' (becomeB bs f os e) ∧ Kept [s.ap, s.aq] wr w') := by
        have h1 := hr.out.1
        rw [List.take_length] at h1
        exact Lib.hid ⟨_, rfl, between_ok (HG.out _ hr.out.2.1) h1 hr.out.2.2 f e f0 f1 e0 e1 A cap os (HA.out _ hr.out.2.1) HNA.out HOS.out hlen⟩
      have K1 := Lib.hid hr.out.2.1
      clear hr
      obtain ⟨ws', hws, HBt⟩ := HBt.out
      have HW := Lib.hid hws
      have HBt := Lib.hid HBt
      clear hws
      go_wp2_with fail
      refine HBt.out.mono ?_
      rintro en w2 ⟨⟨v2, rfl⟩, hS2, hk2⟩
      have HR : Hid (Spc w2 s l (becomeW ws f os e) (becomeB bs f os e) ∧ Kept s.turn w w2) := Lib.hid ⟨HW.out ▸ hS2, K1.out.trans (hk2.mono (sub_turn s))⟩
      clear hS2 hk2 HBt K1
      go_wp2_with fail
      go_end0
      exact ⟨⟨_, rfl⟩, HR.out.1, HR.out.2⟩
end
end Go.Proofs.YtoagghileebokaaGreatDoor.Sp
