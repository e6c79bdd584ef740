/-
  The contracts of the closure that lays a gap, of between, and of become.
-/
import Derived.Test.YtfdombfdgpclcaaGreatDoorSpMem
import Derived.Deep.RegionHeld3
import Derived.StillTail
import Derived.StillTailTactics
namespace Go.Proofs.YtfdombfdgpclcaaGreatDoor.Sp
open Go.RowKit Go.Proofs.YtfdombfdgpclcaaGreatDoor.Ar Go.Proofs.YtfdombfdgpclcaaGreatDoor.Sh
open Go.Proofs.YtfdombfdgpclcaaGreatDoor.Hd (Hd Fields)
open Go.Proofs.YtfdombfdgpclcaaGreatDoor.Tb (Ty Tab blk)
open Go.Proofs.YtfdombfdgpclcaaGreatDoor.Bt (Bv layB clearRun_ok set_ok)
open Go.Proofs.YtfdombfdgpclcaaGreatDoor.Wd (Table)
set_option linter.unusedVariables false

/-- The constant tables stand, and are none of a space's blocks that may turn. -/
structure Glob (w : World) (s : Ids) : Prop where
  f : Fields w
  t : Table w
  nf : 0 ∉ s.turn
  nt : 1 ∉ s.turn
theorem Glob.kept {w w' : World} {s : Ids} (h : Glob w s) (k : Kept s.turn w w') : Glob w' s := by
  refine ⟨h.f.kept k fun i hi e => h.nf (e ▸ hi), fun i hi => ?_, h.nf, h.nt⟩
  have hc := h.t i hi
  have hlt : 1 < w.heap.size := by
    rcases Nat.lt_or_ge (1) w.heap.size with k | k
    · exact k
    · exfalso
      have hn : w.heap[1]? = none := Array.getElem?_eq_none k
      simp [World.cell?, hn] at hc
  rw [World.cell?_of_block (w := w) (k.old _ hlt h.nt)]
  exact hc
theorem Glob.keep0 {w w' : World} {s : Ids} (h : Glob w s) (k : Kept [] w w') : Glob w' s := h.kept (k.none _)
section
variable {w : World} {s : Ids} {l : List Ty} {ws : List Int} {bs : List Bool}
set_option maxRecDepth 100000 in
set_option maxHeartbeats 4000000 in
theorem layGap_ok (hG : Glob w s) (h : Spc w s l ws bs) {bx : Nat} (hb : Has w bx 30 [.pointer (some ⟨s.sp, 0, none⟩)]) (g z : Int) (g0 : 0 ≤ g) (g1 : g ≤ 1000000) (z0 : -9223372036854775808 ≤ z) (z1 : z ≤ 9223372036854775807) :
    Calls Tryz.prog 44 #[.int .i64 g, .int .i64 z, .pointer (some ⟨bx, 0, none⟩)] w fun e w' => (∃ v, e = .returned v) ∧ Spc w' s l (setG ws g (gapW z)) bs ∧ Kept [s.ap, s.aq] w w' := by
  obtain ⟨m, ha⟩ := h.ar
  have H := Lib.hid h
  have Hb := Lib.hid hb
  have c0 := hb.cell 0
  simp at c0
  have c1 := h.cells.1
  have nb : bx ∉ [s.ap, s.aq] := by simpa using ⟨Has.block_type hb ha.head (by decide), Has.block_type hb ha.row (by decide)⟩
  have ns : s.sp ∉ [s.ap, s.aq] := by simpa using ⟨Has.block_type h.head ha.head (by decide), Has.block_type h.head ha.row (by decide)⟩
  have C1 : Hid (∀ y, Kept [] w y → Calls Tryz.prog 46 #[.int .i64 z] y fun e x => e = .returned (.int .u64 (gapW z)) ∧ Kept [] w x ∧ (x.cell? ⟨bx, 0, none⟩ = some (.pointer (some ⟨s.sp, 0, none⟩)) ∧ x.cell? ⟨s.sp, 0, none⟩ = some (.pointer (some ⟨s.ap, 0, none⟩)))) :=
    Lib.hid fun y hy => (gapWord_ok (hG.f.keep0 hy) z z0 z1).mono fun e x ⟨he, hk⟩ => ⟨he, hy.trans hk, by have := (Hb.out.keep0 (hy.trans hk)).cell 0; simpa using this, (H.out.keep0 (hy.trans hk)).cells.1⟩
  have C2 : Hid (∀ x y, Kept [] w x → Kept [] x y → Calls Tryz.prog 45 #[.pointer (some ⟨s.ap, 0, none⟩), .int .i64 (g * 2), .int .u64 (gapW z)] y fun e x => (∃ v, e = .returned v) ∧ Spc x s l (setG ws g (gapW z)) bs ∧ Kept [s.ap, s.aq] w x ∧ (x.cell? ⟨bx, 0, none⟩ = some (.pointer (some ⟨s.sp, 0, none⟩)) ∧ x.cell? ⟨s.sp, 0, none⟩ = some (.pointer (some ⟨s.ap, 0, none⟩)))) :=
    Lib.hid fun x y hx hy => by
      have hxy := hx.trans hy
      refine (store_any (ha.keep0 hxy) (g * 2) (gapW z) (by omega) (by omega)).mono ?_
      rintro e x2 ⟨he, hA, hk⟩
      have hS := (H.out.keep0 hxy).arena (ws' := setG ws g (gapW z)) hk ⟨_, by unfold setG; rw [Int.mul_comm]; exact hA⟩ (setG_wm h.wm (gapW_range z))
      refine ⟨⟨_, he⟩, hS, (hxy.none _).trans hk, ?_, hS.cells.1⟩
      have := ((Hb.out.keep0 hxy).kept hk nb).cell 0
      simpa using this
  have hw2 : IntKind.i64.wrap (g * 2) = g * 2 := by rw [IntKind.wrap_i64]; omega
  clear h hb ha nb ns hG
  generalize gapW z = u at *
  generalize setG ws g u = ws2 at *
  generalize s.sp = sp at *
  go_enter Tryz.func44, Tryz.ntmps44
  go_wp2_with fail
  go_region_held3 (fun y => y.cell? ⟨bx, 0, none⟩ = some (.pointer (some ⟨sp, 0, none⟩)) ∧ y.cell? ⟨sp, 0, none⟩ = some (.pointer (some ⟨s.ap, 0, none⟩))) (go_keep)
    (first
      | (go_at_call 46; refine (C1.out _ ?_).mono ?_; (first | exact Kept.refl _ _ | exact (Kept.refl _ _).drewN _); rintro e z1 ⟨rfl, hz1, r0, r1⟩)
      | (go_at_call 45; refine (C2.out _ _ hz1 ?_).mono ?_; (first | exact Kept.refl _ _ | exact (Kept.refl _ _).drewN _); rintro e z2 ⟨⟨v2, rfl⟩, hS2, hz2, s0, s1⟩))
  all_goals
    have HS2 := Lib.hid hS2
    have HZ2 := Lib.hid hz2
    clear hz1 hS2 hz2
    go_wp2_with fail
    go_end0
    exact ⟨⟨_, rfl⟩, HS2.out, HZ2.out⟩
theorem sub_turn (s : Ids) : ∀ i ∈ [s.ap, s.aq], i ∈ s.turn := fun i hi => by
  simp at hi
  simp [Ids.turn]
  omega
theorem cel_drop {l : List Cel} {j : Nat} (h : j < l.length) : l.drop j = l.getD j Cel.zero :: l.drop (j + 1) := by
  rw [List.drop_eq_getElem_cons h, List.getD_eq_getElem?_getD, List.getElem?_eq_getElem h]
  rfl
theorem cel_mem {l : List Cel} {j : Nat} (h : j < l.length) : l.getD j Cel.zero ∈ l := by
  rw [List.getD_eq_getElem?_getD, List.getElem?_eq_getElem h]
  exact List.getElem_mem h
/-- Objects that stand within reach. -/
def Near (os : List Cel) : Prop := ∀ c ∈ os, (0 ≤ c.a ∧ c.a ≤ 100000) ∧ 0 ≤ c.h.sz ∧ c.h.sz ≤ 100000
set_option maxRecDepth 100000 in
set_option maxHeartbeats 4000000 in
theorem between_ok (hG : Glob w s) (h : Spc w s l ws bs) {bx : Nat} (hb : Has w bx 30 [.pointer (some ⟨s.sp, 0, none⟩)]) (f e : Int) (f0 : 0 ≤ f) (f1 : f ≤ 300000) (e0 : 0 ≤ e) (e1 : e ≤ 300000)
    (A : Option Addr) (cap : Nat) (os : List Cel) (hA : Seen w A os) (hnA : ∀ g o, A = some ⟨g, o, none⟩ → g ∉ s.turn) (hos : Near os) (hlen : os.length ≤ 100000) :
    Calls Tryz.prog 43 #[.int .i64 f, .int .i64 e, .slice A os.length cap, .func (.func 44) #[] #[.pointer (some ⟨bx, 0, none⟩)]] w fun en w' => (∃ v, en = .returned v) ∧ Spc w' s l (becomeW ws f os e) bs ∧ Kept [s.ap, s.aq] w w' := by
  obtain ⟨m, ha⟩ := h.ar
  have nb : bx ∉ [s.ap, s.aq] := by simpa using ⟨Has.block_type hb ha.head (by decide), Has.block_type hb ha.row (by decide)⟩
  have HL : Hid (∀ y ws' (g z : Int), Kept [s.ap, s.aq] w y → Spc y s l ws' bs → 0 ≤ g → g ≤ 1000000 → -9223372036854775808 ≤ z → z ≤ 9223372036854775807 → Calls Tryz.prog 44 #[.int .i64 g, .int .i64 z, .pointer (some ⟨bx, 0, none⟩)] y fun e w' => (∃ v, e = .returned v) ∧ Spc w' s l (setG ws' g (gapW z)) bs ∧ Kept [s.ap, s.aq] w w' ∧ Kept [s.ap, s.aq] y w') :=
    Lib.hid fun y ws' g z k hS g0 g1 z0 z1 => (layGap_ok (hG.kept (k.mono (sub_turn s))) hS (hb.kept k nb) g z g0 g1 z0 z1).mono fun e x ⟨a, b, c⟩ => ⟨a, b, k.trans c, c⟩
  have HA : Hid (∀ y, Kept [s.ap, s.aq] w y → Seen y A os) := Lib.hid fun y k => hA.keep (fun g o e hg => k.old g hg fun hm => hnA g o e (sub_turn s g hm)) k.more
  have HOS := Lib.hid hos
  have HS0 : Hid (becomeW ws f os e = becomeW ws f (os.drop 0) e ∧ Spc w s l ws bs ∧ Kept [s.ap, s.aq] w w) := Lib.hid ⟨rfl, h, Kept.refl _ _⟩
  clear hG h hb hA hnA hos nb ha
  go_enter Tryz.func43, Tryz.ntmps43
  go_wp2_with fail
  go_loopw [0, 12] (fun v t wr => ∃ (j : Nat) (a : Int) (ws' : List Int), v = .int .i64 a ∧ t = .int .i64 (j : Int) ∧ j ≤ os.length ∧ 0 ≤ a ∧ a ≤ 300000 ∧ Hid (becomeW ws f os e = becomeW ws' a (os.drop j) e ∧ Spc wr s l ws' bs ∧ Kept [s.ap, s.aq] w wr)) (fun _ t _ => os.length - (intOf t).toNat)
  case atStart => exact ⟨0, f, ws, rfl, rfl, Nat.zero_le _, f0, f1, HS0⟩
  case round =>
    obtain ⟨j, a, ws', rfl, rfl, hj, a0, a1, hr⟩ := hrel
    clear HS0
    by_cases hlt : j < os.length
    · obtain ⟨g, o, rfl, hg, c0, c1, c2, c3, c4⟩ := (HA.out _ hr.out.2.2).at j hlt _ rfl
      have hn := HOS.out _ (cel_mem hlt)
      have HX := Lib.hid (cel_drop hlt)
      generalize hx : os.getD j Cel.zero = x at HX hn c0 c1 c2 c3 c4
      clear hx
      have HBh := Lib.hid (fun X => behind_ok x (by omega) (by omega) (by omega) (by omega) X)
      obtain ⟨xa, ⟨xt, xy, xl, xz⟩⟩ := x
      simp only at *
      unfold Cel.val at HBh
      simp only at HBh
      have hwr : Kept [] wr (wr.alloc (.cells #[.int .i64 xa, .int .u8 xt, .int .i64 xy, .int .i64 xl, .int .i64 xz] 45)) := (Kept.refl [] wr).alloc _
      have hB := Has.new wr 45 [.int .i64 xa, .int .u8 xt, .int .i64 xy, .int .i64 xl, .int .i64 xz]
      obtain ⟨d0, d1, d2, d3, d4⟩ := cells5 hB
      have HB := Lib.hid hB
      have HWR := Lib.hid hwr
      clear hB hwr
      by_cases hab : a < xa
      · have HN : Hid (becomeW ws f os e = becomeW (setG ws' a (gapW (xa - a))) (xa + xz) (os.drop (j + 1)) e) := Lib.hid (by
          rw [hr.out.1, HX.out]
          show becomeW (gapS ws' a xa) _ _ _ = _
          unfold gapS
          rw [if_pos hab])
        have HC := Lib.hid (HL.out _ ws' a (xa - a) ((hr.out.2.2).trans (HWR.out.none _)) (hr.out.2.1.keep0 HWR.out) a0 (by omega) (by omega) (by omega))
        have hnb : wr.heap.size ∉ [s.ap, s.aq] := fun hm => by
          have := hr.out.2.1.turn_lt _ (sub_turn s _ hm)
          omega
        have Hnb := Lib.hid hnb
        clear hnb hr HX
        go_wp2_with fail
        refine HC.out.mono ?_
        rintro e2 w2 ⟨⟨v2, rfl⟩, hS2, hK2, hk2⟩
        have hb2 := HB.out.kept hk2 Hnb.out
        clear d0 d1 d2 d3 d4 HC
        obtain ⟨d0, d1, d2, d3, d4⟩ := cells5 hb2
        have HS2 := Lib.hid hS2
        have HK2 := Lib.hid hK2
        clear hS2 hK2 hk2 hb2 HB
        go_wp2_with fail
        refine (HBh.out _).mono ?_
        rintro e3 w3 ⟨rfl, hk3⟩
        have HR : Hid (becomeW ws f os e = becomeW (setG ws' a (gapW (xa - a))) (xa + xz) (os.drop (j + 1)) e ∧ Spc w3 s l (setG ws' a (gapW (xa - a))) bs ∧ Kept [s.ap, s.aq] w w3) :=
          Lib.hid ⟨HN.out, HS2.out.keep0 hk3, HK2.out.trans (hk3.none _)⟩
        clear hk3 HS2 HK2 HN d0 d1 d2 d3 d4 HBh
        go_wp2_with fail
        go_roundw
        case rel => exact ⟨j + 1, xa + xz, _, rfl, by go_num, by omega, by omega, by omega, HR⟩
        case measure => simp [intOf] <;> omega
      · have HN : Hid (becomeW ws f os e = becomeW ws' (xa + xz) (os.drop (j + 1)) e) := Lib.hid (by
          rw [hr.out.1, HX.out]
          show becomeW (gapS ws' a xa) _ _ _ = _
          unfold gapS
          rw [if_neg hab])
        have HS2 := Lib.hid (hr.out.2.1.keep0 HWR.out)
        have HK2 := Lib.hid (hr.out.2.2.trans (HWR.out.none _))
        have hge : xa ≤ a := by omega
        clear hr HX HB hab
        go_wp2_with fail
        refine (HBh.out _).mono ?_
        rintro e3 w3 ⟨rfl, hk3⟩
        have HR : Hid (becomeW ws f os e = becomeW ws' (xa + xz) (os.drop (j + 1)) e ∧ Spc w3 s l ws' bs ∧ Kept [s.ap, s.aq] w w3) :=
          Lib.hid ⟨HN.out, HS2.out.keep0 hk3, HK2.out.trans (hk3.none _)⟩
        clear hk3 HS2 HK2 HN d0 d1 d2 d3 d4 HBh
        go_wp2_with fail
        go_roundw
        case rel => exact ⟨j + 1, xa + xz, _, rfl, by go_num, by omega, by omega, by omega, HR⟩
        case measure => simp [intOf] <;> omega
    · obtain rfl : j = os.length := by omega
      have HN : Hid (becomeW ws f os e = gapS ws' a e) := Lib.hid (by rw [hr.out.1, List.drop_length]; rfl)
      by_cases hab : a < e
      · have HC := Lib.hid (HL.out _ ws' a (e - a) hr.out.2.2 hr.out.2.1 a0 (by omega) (by omega) (by omega))
        clear hr
        go_wp2_with fail
        refine HC.out.mono ?_
        rintro e2 w2 ⟨⟨v2, rfl⟩, hS2, hK2, hk2⟩
        have HR : Hid (Spc w2 s l (becomeW ws f os e) bs ∧ Kept [s.ap, s.aq] w w2) := Lib.hid ⟨by rw [HN.out]; unfold gapS; rw [if_pos hab]; exact hS2, hK2⟩
        clear hS2 hK2 hk2 HN
        go_wp2_with fail
        go_end0
        exact ⟨⟨_, rfl⟩, HR.out.1, HR.out.2⟩
      · have HR : Hid (Spc wr s l (becomeW ws f os e) bs ∧ Kept [s.ap, s.aq] w wr) := Lib.hid ⟨by rw [HN.out]; unfold gapS; rw [if_neg hab]; exact hr.out.2.1, hr.out.2.2⟩
        clear hr HN
        go_wp2_with fail
        go_end0
        exact ⟨⟨_, rfl⟩, HR.out.1, HR.out.2⟩
end
end Go.Proofs.YtfdombfdgpclcaaGreatDoor.Sp
