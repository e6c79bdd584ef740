/-
  The contract of become: a range of granules has these objects from then on, and gaps between them.
-/
import Derived.Test.YtfdombfdgpclcaaGreatDoorSpBecome
namespace Go.Proofs.YtfdombfdgpclcaaGreatDoor.Sp
open Go.RowKit Go.Proofs.YtfdombfdgpclcaaGreatDoor.Ar Go.Proofs.YtfdombfdgpclcaaGreatDoor.Sh
open Go.Proofs.YtfdombfdgpclcaaGreatDoor.Hd (Hd Fields)
open Go.Proofs.YtfdombfdgpclcaaGreatDoor.Tb (Ty Tab blk)
open Go.Proofs.YtfdombfdgpclcaaGreatDoor.Bt (Bv layB clearRun_ok set_ok)
open Go.Proofs.YtfdombfdgpclcaaGreatDoor.Wd (Table)
set_option linter.unusedVariables false

theorem sub_turn' (s : Ids) : ∀ i ∈ [s.bq], i ∈ s.turn := fun i hi => by
  simp at hi
  simp [Ids.turn]
  omega
theorem cel_take {l : List Cel} {j : Nat} (h : j < l.length) : l.take (j + 1) = l.take j ++ [l.getD j Cel.zero] := by
  rw [List.take_add_one, List.getD_eq_getElem?_getD, List.getElem?_eq_getElem h]
  rfl
section
variable {w : World} {s : Ids} {l : List Ty} {ws : List Int} {bs : List Bool}
set_option maxRecDepth 100000 in
set_option maxHeartbeats 4000000 in
theorem become_ok (hG : Glob w s) (h : Spc w s l ws bs) (f e : Int) (f0 : 0 ≤ f) (f1 : f ≤ 300000) (e0 : 0 ≤ e) (e1 : e ≤ 300000)
    (A : Option Addr) (cap : Nat) (os : List Cel) (hA : Seen w A os) (hnA : ∀ g o, A = some ⟨g, o, none⟩ → g ∉ s.turn) (hos : Near os) (hlen : os.length ≤ 100000) :
    Calls Tryz.prog 21 #[.pointer (some ⟨s.sp, 0, none⟩), .int .i64 f, .int .i64 e, .slice A os.length cap] w fun en w' => (∃ v, en = .returned v) ∧ Spc w' s l (becomeW ws f os e) (becomeB bs f os e) ∧ Kept s.turn w w' := by
  have k0 : Kept [] w (w.alloc (.cells #[.pointer (some ⟨s.sp, 0, none⟩)] 30)) := (Kept.refl [] w).alloc _
  have hb := Has.new w 30 [.pointer (some ⟨s.sp, 0, none⟩)]
  have h0 := h.keep0 k0
  have c0 := hb.cell 0
  simp at c0
  have c2 := h0.cells.2.2
  have HG : Hid (∀ y, Kept s.turn w y → Glob y s) := Lib.hid fun y k => hG.kept k
  have HA : Hid (∀ y, Kept s.turn w y → Seen y A os) := Lib.hid fun y k => hA.keep (fun g o e hg => k.old g hg fun hm => hnA g o e hm) k.more
  have HC := Lib.hid (clearRun_ok bs _ _ _ h0.bv f (e - f) (by omega) (by omega) (by omega) (by omega))
  have HOS := Lib.hid hos
  have HNA := Lib.hid hnA
  have K0 : Hid (Kept s.turn w (w.alloc (.cells #[.pointer (some ⟨s.sp, 0, none⟩)] 30))) := Lib.hid (k0.none _)
  have H0 := Lib.hid h0
  have HB := Lib.hid hb
  clear hG h hb hA hnA hos h0 k0
  go_enter Tryz.func21, Tryz.ntmps21
  go_wp2_with fail
  generalize w.alloc (.cells #[.pointer (some ⟨s.sp, 0, none⟩)] 30) = w0 at *
  generalize w.heap.size = bx at *
  refine HC.out.mono ?_
  rintro en w1 ⟨rfl, hv1, hk1⟩
  have hS1 := H0.out.bits hk1 hv1
  have hb1 : Has w1 bx 30 [.pointer (some ⟨s.sp, 0, none⟩)] := HB.out.kept hk1 fun hm => H0.out.beside HB.out (by decide) (by decide) (by decide) (sub_turn' s _ hm)
  have HR : Hid (Spc w1 s l ws (setAll (layB bs f (e - f) false) (os.take 0)) ∧ Kept s.turn w w1 ∧ Has w1 bx 30 [.pointer (some ⟨s.sp, 0, none⟩)]) := Lib.hid ⟨hS1, K0.out.trans (hk1.mono (sub_turn' s)), hb1⟩
  clear hv1 hk1 hS1 hb1 HC H0 HB K0 c0 c2
  go_wp2_with fail
  go_loopw [21] (fun t wr => ∃ j : Nat, t = .int .i64 (j : Int) ∧ j ≤ os.length ∧ Hid (Spc wr s l ws (setAll (layB bs f (e - f) false) (os.take j)) ∧ Kept s.turn w wr ∧ Has wr bx 30 [.pointer (some ⟨s.sp, 0, none⟩)])) (fun t _ => os.length - (intOf t).toNat)
  case atStart => exact ⟨0, rfl, Nat.zero_le _, HR⟩
  case round =>
    obtain ⟨j, rfl, hj, hr⟩ := hrel
    clear HR
    by_cases hlt : j < os.length
    · obtain ⟨g, o, rfl, hg, c0, c1, c2, c3, c4⟩ := (HA.out _ hr.out.2.1).at j hlt _ rfl
      have hn := HOS.out _ (cel_mem hlt)
      have HX : Hid (setAll (layB bs f (e - f) false) (os.take (j + 1)) = layB (setAll (layB bs f (e - f) false) (os.take j)) (os.getD j Cel.zero).a 1 true) := Lib.hid (by rw [cel_take hlt, setAll_snoc])
      generalize hx : os.getD j Cel.zero = x at HX hn c0 c1 c2 c3 c4
      clear hx
      obtain ⟨xa, ⟨xt, xy, xl, xz⟩⟩ := x
      simp only at *
      have hwr : Kept [] wr (wr.alloc (.cells #[.int .i64 xa, .int .u8 xt, .int .i64 xy, .int .i64 xl, .int .i64 xz] 45)) := (Kept.refl [] wr).alloc _
      have hB := Has.new wr 45 [.int .i64 xa, .int .u8 xt, .int .i64 xy, .int .i64 xl, .int .i64 xz]
      have HWR := Lib.hid hwr
      have HB := Lib.hid hB
      clear hB hwr
      go_wp2_with fail
      obtain ⟨d0, d1, d2, d3, d4⟩ := cells5 HB.out
      have S1 := Lib.hid (hr.out.1.keep0 HWR.out)
      have B1 := Lib.hid (hr.out.2.2.keep0 HWR.out)
      have K1 := Lib.hid (hr.out.2.1.trans (HWR.out.none _))
      have b0 := B1.out.cell 0
      simp at b0
      have s2 := S1.out.cells.2.2
      clear hr c0 c1 c2 c3 c4
      generalize wr.alloc (.cells #[.int .i64 xa, .int .u8 xt, .int .i64 xy, .int .i64 xl, .int .i64 xz] 45) = w2 at *
      generalize wr.heap.size = b9 at *
      go_still_tail 6, (by kernel_rfl)
      change wpList _ _ _ _ _ w2.drew
      have hk3 : Kept [] w2 w2.drew := (Kept.refl [] w2).drew
      clear d0 d1 d2 d3 d4 b0 s2
      generalize w2.drew = w3 at hk3 ⊢
      have HS := Lib.hid (set_ok _ _ _ w3 (S1.out.keep0 hk3).bv xa (by omega) (by omega))
      have S3 := Lib.hid (S1.out.keep0 hk3)
      have B3 := Lib.hid (B1.out.keep0 hk3)
      have K3 := Lib.hid (K1.out.trans (hk3.none _))
      clear hk3 S1 B1 K1
      go_wp2_with fail
      refine HS.out.mono ?_
      rintro en w4 ⟨rfl, hv4, hk4⟩
      have HR : Hid (Spc w4 s l ws (setAll (layB bs f (e - f) false) (os.take (j + 1))) ∧ Kept s.turn w w4 ∧ Has w4 bx 30 [.pointer (some ⟨s.sp, 0, none⟩)]) :=
        Lib.hid ⟨S3.out.bits hk4 (by rw [HX.out]; exact hv4), K3.out.trans (hk4.mono (sub_turn' s)), B3.out.kept hk4 fun hm => S3.out.beside B3.out (by decide) (by decide) (by decide) (sub_turn' s _ hm)⟩
      clear hv4 hk4 HS S3 B3 K3
      go_wp2_with fail
      go_roundw
      case rel => exact ⟨j + 1, by go_num, by omega, HR⟩
      case measure => simp [intOf] <;> omega
    · obtain rfl : j = os.length := by omega
      have HBt : Hid (∃ ws', ws' = becomeW ws f os e ∧ Calls Tryz.prog 43 #[.int .i64 f, .int .i64 e, .slice A os.length cap, .func (.func 44) #[] #[.pointer (some ⟨bx, 0, none⟩)]] wr fun en w' => (∃ v, en = .returned v) ∧ Spc w' s l ws' (becomeB bs f os e) ∧ Kept [s.ap, s.aq] wr w') := by
        have h1 := hr.out.1
        rw [List.take_length] at h1
        exact Lib.hid ⟨_, rfl, between_ok (HG.out _ hr.out.2.1) h1 hr.out.2.2 f e f0 f1 e0 e1 A cap os (HA.out _ hr.out.2.1) HNA.out HOS.out hlen⟩
      have K1 := Lib.hid hr.out.2.1
      clear hr
      obtain ⟨ws', hws, HBt⟩ := HBt.out
      have HW := Lib.hid hws
      have HBt := Lib.hid HBt
      clear hws
      go_wp2_with fail
      refine HBt.out.mono ?_
      rintro en w2 ⟨⟨v2, rfl⟩, hS2, hk2⟩
      have HR : Hid (Spc w2 s l (becomeW ws f os e) (becomeB bs f os e) ∧ Kept s.turn w w2) := Lib.hid ⟨HW.out ▸ hS2, K1.out.trans (hk2.mono (sub_turn s))⟩
      clear hS2 hk2 HBt K1
      go_wp2_with fail
      go_end0
      exact ⟨⟨_, rfl⟩, HR.out.1, HR.out.2⟩
end
end Go.Proofs.YtfdombfdgpclcaaGreatDoor.Sp
