/-
  Several texts in one: SpDocDrop, SpSlots.
-/
import Derived.Test.YtdfnphgjjodfoaaGreatDoorG28
import Derived.Test.YtdfnphgjjodfoaaGreatDoorG24
import Derived.Deep.DeepCutAuto
import Derived.Test.YtdfnphgjjodfoaaGreatDoorG45
import Derived.Test.YtdfnphgjjodfoaaGreatDoorG32
import Derived.Test.YtdfnphgjjodfoaaGreatDoorG14
import Derived.Deep.RegionWith
/-
  The contract of the document's Drop.
-/
namespace Go.Proofs.YtdfnphgjjodfoaaGreatDoor.Sp
open Go.RowKit Go.Proofs.YtdfnphgjjodfoaaGreatDoor.Ar Go.Proofs.YtdfnphgjjodfoaaGreatDoor.Sh
open Go.Proofs.YtdfnphgjjodfoaaGreatDoor.Hd (Hd Fields encW gapH errH cells4 free4 ofL of_facts)
open Go.Proofs.YtdfnphgjjodfoaaGreatDoor.Tb (Ty sizeE sizeT)
set_option linter.unusedVariables false
theorem objAt_at {cs : List Cel} {j : Nat} (hj : j < cs.length) {ws : List Int} {l : List Ty} {e g : Int} (hT : Tiled ws l 0 cs e) (ha : (cs.getD j Cel.zero).a = g) (ht : (cs.getD j Cel.zero).h.tg = 1) :
    objAt [] cs g = some ((cs.take j).reverse, cs.getD j Cel.zero, cs.drop (j + 1)) ∧ 0 ≤ fromR (cs.take j).reverse g ∧ fromR (cs.take j).reverse g ≤ g ∧ g + (cs.getD j Cel.zero).h.sz ≤ toR (cs.drop (j + 1)) (g + (cs.getD j Cel.zero).h.sz) ∧ toR (cs.drop (j + 1)) (g + (cs.getD j Cel.zero).h.sz) ≤ e := by
  have hs : cs = cs.take j ++ cs.getD j Cel.zero :: cs.drop (j + 1) := by rw [← cel_drop hj, List.take_append_drop]
  have hT' := hT
  rw [hs] at hT'
  obtain ⟨m, t1, t2⟩ := Tiled.split hT'
  have hm : (cs.getD j Cel.zero).a = m := t2.1
  have hmg : m = g := by omega
  subst hmg
  have h1 : objAt [] cs m = some ((cs.take j).reverse, cs.getD j Cel.zero, cs.drop (j + 1)) := by
    have h2 := objAt_some (A := []) hT' ha ht
    rw [List.append_nil] at h2
    exact (congrArg (fun z => objAt [] z m) hs).trans h2
  obtain ⟨A1, A2, m1, _, _, _, u1, u2, u3⟩ := fromR_cut (A := (cs.take j).reverse) (by rw [List.reverse_reverse]; exact t1)
  obtain ⟨B1, B2, m2, _, _, _, v1, v2, v3⟩ := toR_cut t2.2.2.2.2
  refine ⟨h1, ?_, ?_, ?_, ?_⟩
  · rw [u3]; exact u1.le
  · rw [u3]; exact u2.le
  · rw [v3]; exact v1.le
  · rw [v3]; exact v2.le
theorem tag_b {P : Prop} [Decidable P] (hp : P) (z : Int) : (z != 1) = decide (P ∧ z ≠ 1) := by
  by_cases h : z = 1
  · subst h; simp
  · have h1 : (z != 1) = true := by rw [bne_iff_ne]; exact h
    rw [h1, decide_eq_true ⟨hp, h⟩]
section
variable {x : World} {r q cap : Nat} {B : Option Addr} {d : Nat} {l : List Ty} {ws : List Int} {cs : List Cel}
set_option maxRecDepth 100000 in
set_option maxHeartbeats 8000000 in
theorem sdrop_ok (h : DSp x r q cap B d l ws) (hf : Fit x B l ws cs) (g : Int) (g0 : -9223372036854775808 ≤ g) (g1 : g ≤ 9223372036854775807) :
    Calls Tryz.prog 61 #[.pointer (some ⟨r, 0, none⟩), .int .i64 g] x fun e y => e = .returned (.int .i64 (dropE cs g)) ∧ Doc x y r q B d l (dropX ws cs g) := by
  have hsh := hf.short
  have hgr : 0 ≤ gran ws ∧ gran ws ≤ 32768 := by unfold gran; omega
  have hmost := hf.most
  have HAl := Lib.hid (all_ok h hf)
  have HD := Lib.hid h
  have HT := Lib.hid hf.tiled
  have HAt := Lib.hid (fun (j : Nat) (hj : j < cs.length) => objAt_at (g := g) hj hf.tiled)
  have HNo := Lib.hid (fun (hn : ∀ c ∈ cs, c.h.tg = 1 → c.a ≠ g) => objAt_none (A := []) hn)
  have HDe : Hid (∀ A c B, objAt [] cs g = some (A, c, B) → dropE cs g = 0 ∧ dropX ws cs g = gapS ws (fromR A g) (toR B (g + c.h.sz))) := Lib.hid fun A c B e => by unfold dropE dropX; rw [e]; exact ⟨rfl, rfl⟩
  have HDn : Hid (objAt [] cs g = none → dropE cs g = 3 ∧ dropX ws cs g = ws) := Lib.hid fun e => by unfold dropE dropX; rw [e]; exact ⟨rfl, rfl⟩
  have HLay : Hid (∀ y, Kept [] x y → ∀ f e : Int, 0 ≤ f → f < e → e ≤ gran ws → Calls Tryz.prog 88 #[.pointer (some ⟨r, 0, none⟩), .int .i64 f, .int .i64 (e - f)] y fun e1 y1 => (∃ v, e1 = .returned v) ∧ Doc y y1 r q B d l (gapS ws f e)) := Lib.hid fun y k f e h1 h2 h3 => by
    have h4 := lay_ok (h.keep0 k) hf.short f (e - f) h1 (fun _ => by omega) (by omega)
    rw [show f + (e - f) = e by omega] at h4
    exact h4
  clear h hf
  generalize gran ws = G at *
  go_enter Tryz.func61, Tryz.ntmps61
  go_wp2_with fail
  refine HAl.out.mono ?_
  rintro e x2 ⟨v, rfl, hO, hV, k2⟩
  obtain ⟨Av, cv, rfl, _⟩ := back_own (Kept.refl [] _) hO
  have HSn := Lib.hid hO.seen
  have K2 := Lib.hid k2
  have H0 : Hid (∀ c ∈ cs.take 0, c.h.tg = 1 → c.a ≠ g) := Lib.hid (by simp)
  clear hO hV k2 HAl
  go_wp2_with fail
  go_loop [6] (fun t => ∃ j : Nat, t = .int .i64 (j : Int) ∧ j ≤ cs.length ∧ Hid (∀ c ∈ cs.take j, c.h.tg = 1 → c.a ≠ g)) (fun t => cs.length - (intOf t).toNat)
  case atStart => exact ⟨0, rfl, Nat.zero_le _, H0⟩
  case round =>
    obtain ⟨j, rfl, hj, hr⟩ := hrel
    clear H0
    by_cases hlt : j < cs.length
    · obtain ⟨g9, o9, rfl, hg9, c0, c1, c2, c3, c4⟩ := HSn.out.at j hlt _ rfl
      have hxm := cel_mem hlt
      have htk := cel_take hlt
      have hat := HAt.out j hlt
      generalize hx : cs.getD j Cel.zero = c at hxm htk hat c0 c1 c2 c3 c4
      obtain ⟨m1, m2, m3, m4, m5⟩ := HT.out.mem c hxm
      have hz := can_sz m3
      by_cases hyes : c.a = g ∧ c.h.tg = 1
      · obtain ⟨ha, ht⟩ := hyes
        obtain ⟨o1, o2, o3, o4, o5⟩ := hat ha ht
        obtain ⟨e1, e2⟩ := HDe.out _ _ _ o1
        obtain ⟨F, hF⟩ : ∃ F, fromR (cs.take j).reverse g = F := ⟨_, rfl⟩
        obtain ⟨T, hTo⟩ : ∃ T, toR (cs.drop (j + 1)) (g + c.h.sz) = T := ⟨_, rfl⟩
        rw [hF] at o2 o3
        rw [hTo] at o4 o5
        rw [hF, hTo] at e2
        have HE := Lib.hid (And.intro e1 e2)
        have hFT : F < T := by omega
        have HFF := Lib.hid hF
        have HTT := Lib.hid hTo
        have HL := Lib.hid (fun y k => HLay.out y k F T o2 hFT o5)
        clear hF hTo hr e1 e2 o1 htk m4 m5 m3 HDe HDn HNo HAt HLay hxm hx hat
        obtain ⟨xa, ⟨xt, xy, xl, xz⟩⟩ := c
        simp only at *
        subst ha ht
        go_wp2_with fail
        go_quiet (fail)
        have K3 := Lib.hid ((Kept.refl [] x2).drewN nq)
        generalize x2.drewN nq = x3 at *
        have HS3 := Lib.hid (HSn.out.keep0 K3.out)
        clear c0 c1 c2 c3 c4
        go_wp2_with fail
        go_loopw [7, 9] (fun f t wr => ∃ (m : Nat) (fv tv : Int), f = .int .i64 fv ∧ t = .int .i64 tv ∧ tv = (m : Int) - 1 ∧ m ≤ j ∧ Hid (fromR (cs.take m).reverse fv = F ∧ Kept [] x3 wr)) (fun _ t _ => (intOf t + 1).toNat)
        case atStart => exact ⟨j, _, _, rfl, rfl, by omega, Nat.le_refl _, Lib.hid ⟨HFF.out, Kept.refl _ _⟩⟩
        case round =>
          obtain ⟨m, fv, tv, rfl, rfl, htv, hm, hr⟩ := hrel
          go_upto_region 8 with fail
          go_cut [56] (fun vv wx => vv = .bool (decide (1 ≤ m ∧ (cs.getD (m - 1) Cel.zero).h.tg ≠ 1)) ∧ wx = wr)
          case first =>
            cases m with
            | zero =>
              have hge : decide (tv ≥ 0) = false := decide_eq_false (by omega)
              have hge2 : decide (0 ≤ tv) = false := decide_eq_false (by omega)
              have hd : Hid (decide (1 ≤ 0 ∧ (cs.getD (0 - 1) Cel.zero).h.tg ≠ 1) = false) := Lib.hid (decide_eq_false (by omega))
              clear hr htv
              go_wp2_with fail
              go_meet
              case rel => exact ⟨by rw [hd.out], rfl⟩
            | succ m =>
              obtain rfl : tv = (m : Int) := by omega
              clear htv
              have hml : m < cs.length := by omega
              obtain ⟨g8, o8, e8, _, b0, b1, b2, b3, b4⟩ := (HS3.out.keep0 hr.out.2).at m hml _ rfl
              injection e8 with e8
              injection e8 with e8 e9
              subst e8 e9
              obtain ⟨tb, hb1, hb2⟩ : ∃ b : Bool, ((cs.getD m Cel.zero).h.tg != 1) = b ∧ decide (1 ≤ m + 1 ∧ (cs.getD (m + 1 - 1) Cel.zero).h.tg ≠ 1) = b := ⟨_, rfl, (tag_b (by omega) _).symm⟩
              have hge : decide ((m : Int) ≥ 0) = true := decide_eq_true (by omega)
              have hge2 : decide (0 ≤ (m : Int)) = true := decide_eq_true (by omega)
              have hd := Lib.hid hb2
              clear hr hb2
              generalize (cs.getD m Cel.zero).h.tg = zt at *
              cases tb
              all_goals
                go_wp2_with fail
                go_meet
                case rel => exact ⟨by rw [hd.out], rfl⟩
          case rest =>
            obtain ⟨rfl, rfl⟩ := hcut
            by_cases hgo : 1 ≤ m ∧ (cs.getD (m - 1) Cel.zero).h.tg ≠ 1
            · rw [decide_eq_true hgo]
              obtain ⟨m, rfl⟩ : ∃ m', m = m' + 1 := ⟨m - 1, by omega⟩
              obtain rfl : tv = (m : Int) := by omega
              clear htv
              have hml : m < cs.length := by omega
              obtain ⟨g8, o8, e8, _, b0, b1, b2, b3, b4⟩ := (HS3.out.keep0 hr.out.2).at m hml _ rfl
              injection e8 with e8
              injection e8 with e8 e9
              subst e8 e9
              have HN : Hid (fromR (cs.take m).reverse (cs.getD m Cel.zero).a = F ∧ Kept [] x3 wc) := Lib.hid ⟨by
                have h1 := hr.out.1
                rw [cel_take hml, List.reverse_append] at h1
                have h2 : fromR ((cs.getD m Cel.zero) :: (cs.take m).reverse) fv = F := h1
                unfold fromR at h2
                rw [if_neg (show ¬ (cs.getD m Cel.zero).h.tg = 1 from hgo.2)] at h2
                exact h2, hr.out.2⟩
              clear hr hgo
              generalize (cs.getD m Cel.zero).a = za at *
              go_wp2_with fail
              go_roundw
              case rel => exact ⟨m, za, _, rfl, rfl, rfl, by omega, HN⟩
              case measure => simp [intOf] <;> omega
            · rw [decide_eq_false hgo]
              have hfv : fv = F := by
                have h1 := hr.out.1
                cases m with
                | zero => exact h1
                | succ m =>
                  have ht1 : (cs.getD m Cel.zero).h.tg = 1 := Classical.byContradiction fun hh => hgo ⟨by omega, hh⟩
                  rw [cel_take (show m < cs.length by omega), List.reverse_append] at h1
                  have h2 : fromR ((cs.getD m Cel.zero) :: (cs.take m).reverse) fv = F := h1
                  unfold fromR at h2
                  rw [if_pos ht1] at h2
                  exact h2
              subst hfv
              have K4 := Lib.hid (K3.out.trans hr.out.2)
              have HS4 := Lib.hid (HS3.out.keep0 hr.out.2)
              clear hr hgo HS3 HFF htv hm
              go_wp2_with fail
              go_loopw [8, 10] (fun f t wr => ∃ (m : Nat) (tv : Int), f = .int .i64 tv ∧ t = .int .i64 (m : Int) ∧ j + 1 ≤ m ∧ m ≤ cs.length ∧ Hid (toR (cs.drop m) tv = T ∧ Kept [] x2 wr)) (fun _ t _ => (cs.length - (intOf t).toNat))
              case atStart => exact ⟨j + 1, _, rfl, by go_num, Nat.le_refl _, by omega, Lib.hid ⟨HTT.out, K4.out⟩⟩
              case round =>
                obtain ⟨m, tw, rfl, rfl, hm1, hm2, hr⟩ := hrel
                go_upto_region 12 with fail
                go_cut [78] (fun vv wx => vv = .bool (decide (m < cs.length ∧ (cs.getD m Cel.zero).h.tg ≠ 1)) ∧ wx = wr)
                case first =>
                  by_cases hml : m < cs.length
                  · obtain ⟨g8, o8, e8, _, b0, b1, b2, b3, b4⟩ := (HSn.out.keep0 hr.out.2).at m hml _ rfl
                    injection e8 with e8
                    injection e8 with e8 e9
                    subst e8 e9
                    obtain ⟨tb, hb1, hb2⟩ : ∃ b : Bool, ((cs.getD m Cel.zero).h.tg != 1) = b ∧ decide (m < cs.length ∧ (cs.getD m Cel.zero).h.tg ≠ 1) = b := ⟨_, rfl, (tag_b hml _).symm⟩
                    have hd := Lib.hid hb2
                    clear hr hb2
                    generalize (cs.getD m Cel.zero).h.tg = zt at *
                    cases tb
                    all_goals
                      go_wp2_with fail
                      go_meet
                      case rel => exact ⟨by rw [hd.out], rfl⟩
                  · have hd : Hid (decide (m < cs.length ∧ (cs.getD m Cel.zero).h.tg ≠ 1) = false) := Lib.hid (decide_eq_false (fun h => hml h.1))
                    clear hr
                    go_wp2_with fail
                    go_meet
                    case rel => exact ⟨by rw [hd.out], rfl⟩
                case rest =>
                  obtain ⟨rfl, rfl⟩ := hcut
                  by_cases hgo : m < cs.length ∧ (cs.getD m Cel.zero).h.tg ≠ 1
                  · rw [decide_eq_true hgo]
                    obtain ⟨hml, hgt⟩ := hgo
                    obtain ⟨g8, o8, e8, _, b0, b1, b2, b3, b4⟩ := (HSn.out.keep0 hr.out.2).at m hml _ rfl
                    injection e8 with e8
                    injection e8 with e8 e9
                    subst e8 e9
                    obtain ⟨y1, y2, y3, _⟩ := HT.out.mem _ (cel_mem hml)
                    have hyz := can_sz y3
                    have HN : Hid (toR (cs.drop (m + 1)) ((cs.getD m Cel.zero).a + (cs.getD m Cel.zero).h.sz) = T ∧ Kept [] x2 wc) := Lib.hid ⟨by
                      have h1 := hr.out.1
                      rw [cel_drop hml] at h1
                      unfold toR at h1
                      rw [if_neg hgt] at h1
                      exact h1, hr.out.2⟩
                    clear hr hgt y3
                    generalize cs.getD m Cel.zero = zc at *
                    obtain ⟨za, ⟨zt, zy, zl, zz⟩⟩ := zc
                    simp only at *
                    go_wp2_with fail
                    go_quiet (fail)
                    have HN2 : Hid (toR (cs.drop (m + 1)) (za + zz) = T ∧ Kept [] x2 (wc.drewN nq)) := Lib.hid ⟨HN.out.1, HN.out.2.drewN _⟩
                    clear b0 b1 b2 b3 b4
                    go_wp2_with fail
                    go_roundw
                    case rel => exact ⟨m + 1, za + zz, rfl, by go_num, by omega, by omega, HN2⟩
                    case measure => simp [intOf] <;> omega
                  · rw [decide_eq_false hgo]
                    have htw : tw = T := by
                      have h1 := hr.out.1
                      by_cases hml : m < cs.length
                      · have ht1 : (cs.getD m Cel.zero).h.tg = 1 := Classical.byContradiction fun hh => hgo ⟨hml, hh⟩
                        rw [cel_drop hml] at h1
                        unfold toR at h1
                        rw [if_pos ht1] at h1
                        exact h1
                      · rw [List.drop_eq_nil_of_le (by omega)] at h1
                        exact h1
                    subst htw
                    have HL5 := Lib.hid (HL.out _ (K2.out.trans hr.out.2))
                    have K5 := Lib.hid (K2.out.trans hr.out.2)
                    clear hr hgo HS4 HTT K4 HL
                    go_wp2_with fail
                    refine HL5.out.mono ?_
                    rintro e y ⟨⟨v9, rfl⟩, q', cap', h7, hq', k7⟩
                    have HEnd : Hid (Doc x y r q B d l (gapS ws fv tw)) := Lib.hid ⟨q', cap', h7, hq'.imp id (fun hh => Nat.le_trans K5.out.more hh), (K5.out.none _).trans k7⟩
                    clear h7 hq' k7 HL5
                    go_wp2_with fail
                    go_ret
                    exact ⟨ret_int HE.out.1.symm, by rw [HE.out.2]; exact HEnd.out⟩
      · have HN : Hid (∀ c ∈ cs.take (j + 1), c.h.tg = 1 → c.a ≠ g) := Lib.hid fun e he => by
          rw [htk] at he
          rcases List.mem_append.1 he with he | he
          · exact hr.out e he
          · rw [List.mem_singleton.1 he]
            exact fun h1 h2 => hyes ⟨h2, h1⟩
        clear hr htk m3 m4 m5 HDe HDn HNo HAt HLay hxm hx hat
        obtain ⟨xa, ⟨xt, xy, xl, xz⟩⟩ := c
        simp only at *
        by_cases ha : xa = g
        · subst ha
          have hb : (xt != 1) = true := by rw [bne_iff_ne]; exact fun h => hyes ⟨rfl, h⟩
          clear hyes
          go_wp2_with fail
          go_round
          case rel => exact ⟨j + 1, by go_num, by omega, HN⟩
          case measure => simp [intOf] <;> omega
        · have hb : (xa != g) = true := by rw [bne_iff_ne]; exact ha
          clear hyes ha
          go_wp2_with fail
          go_round
          case rel => exact ⟨j + 1, by go_num, by omega, HN⟩
          case measure => simp [intOf] <;> omega
    · obtain rfl : j = cs.length := by omega
      have hn := hr.out
      rw [List.take_length] at hn
      obtain ⟨e1, e2⟩ := HDn.out (HNo.out hn)
      have HE := Lib.hid (And.intro e1 e2)
      clear hr hn e1 e2
      go_wp2_with fail
      go_ret
      exact ⟨ret_int HE.out.1.symm, by rw [HE.out.2]; exact Doc.same HD.out K2.out⟩
end
end Go.Proofs.YtdfnphgjjodfoaaGreatDoor.Sp

/-
  The contract of the law's slots: how many the object has that begins at a granule.
-/
namespace Go.Proofs.YtdfnphgjjodfoaaGreatDoor.Sp
open Go.RowKit Go.Proofs.YtdfnphgjjodfoaaGreatDoor.Ar Go.Proofs.YtdfnphgjjodfoaaGreatDoor.Sh
open Go.Proofs.YtdfnphgjjodfoaaGreatDoor.Hd (Hd Fields cells4 free4 fitL)
open Go.Proofs.YtdfnphgjjodfoaaGreatDoor.Tb (Ty cells3)
open Go.Proofs.YtdfnphgjjodfoaaGreatDoor.Kd (typV)
set_option linter.unusedVariables false
/-- How many slots the object at a granule has. -/
def slotsV (ws : List Int) (l : List Ty) (cs : List Cel) (g : Int) : Int := if (objAt [] cs g).isSome then ofS ws l g else 0
/-- The two boxes of 'h, t, e := Of(..)', laid ahead of the call. -/
theorem box_h {w z : World} (k : Kept [] (w.alloc (.cells #[.int .u8 0, .int .i64 0, .int .i64 0, .int .i64 0] 35)).drew z) : Has z w.heap.size 35 [.int .u8 0, .int .i64 0, .int .i64 0, .int .i64 0] ∧ w.heap.size < z.heap.size :=
  have h : Has z w.heap.size 35 [.int .u8 0, .int .i64 0, .int .i64 0, .int .i64 0] := (Has.new w 35 [.int .u8 0, .int .i64 0, .int .i64 0, .int .i64 0]).drew.keep0 k
  ⟨h, h.lt⟩
theorem box_t {w z : World} (k : Kept [] (w.alloc (.cells #[.int .u8 0, .int .i64 0, .int .u64 0] 68)).drew z) : Has z w.heap.size 68 [.int .u8 0, .int .i64 0, .int .u64 0] ∧ w.heap.size < z.heap.size :=
  have h : Has z w.heap.size 68 [.int .u8 0, .int .i64 0, .int .u64 0] := (Has.new w 68 [.int .u8 0, .int .i64 0, .int .u64 0]).drew.keep0 k
  ⟨h, h.lt⟩
theorem box_ht {w z : World} (k : Kept [] ((w.alloc (.cells #[.int .u8 0, .int .i64 0, .int .i64 0, .int .i64 0] 35)).alloc (.cells #[.int .u8 0, .int .i64 0, .int .u64 0] 68)).drew z) :
    Has z w.heap.size 35 [.int .u8 0, .int .i64 0, .int .i64 0, .int .i64 0] ∧ Has z (w.heap.size + 1) 68 [.int .u8 0, .int .i64 0, .int .u64 0] := by
  have h1 := Has.new (w.alloc (.cells #[.int .u8 0, .int .i64 0, .int .i64 0, .int .i64 0] 35)) 68 [.int .u8 0, .int .i64 0, .int .u64 0]
  rw [World.size_alloc] at h1
  exact ⟨((Has.new w 35 [.int .u8 0, .int .i64 0, .int .i64 0, .int .i64 0]).alloc _).drew.keep0 k, h1.drew.keep0 k⟩
theorem box_th {w z : World} (k : Kept [] ((w.alloc (.cells #[.int .u8 0, .int .i64 0, .int .u64 0] 68)).alloc (.cells #[.int .u8 0, .int .i64 0, .int .i64 0, .int .i64 0] 35)).drew z) :
    Has z w.heap.size 68 [.int .u8 0, .int .i64 0, .int .u64 0] ∧ Has z (w.heap.size + 1) 35 [.int .u8 0, .int .i64 0, .int .i64 0, .int .i64 0] := by
  have h1 := Has.new (w.alloc (.cells #[.int .u8 0, .int .i64 0, .int .u64 0] 68)) 35 [.int .u8 0, .int .i64 0, .int .i64 0, .int .i64 0]
  rw [World.size_alloc] at h1
  exact ⟨((Has.new w 68 [.int .u8 0, .int .i64 0, .int .u64 0]).alloc _).drew.keep0 k, h1.drew.keep0 k⟩
/-- The two boxes behind the call: a header's and a type's. -/
def Two (x w : World) (b1 b2 : Nat) (V U : List Value) : Prop := Has w b1 35 V ∧ Has w b2 68 U ∧ Kept [] x w
section
variable {x z : World} {v0 v1 v2 v3 u0 u1 u2 : Value}
theorem two1 (k : Kept [] x.drew z) : Two x ((z.alloc (.cells #[v0, v1, v2, v3] 35)).alloc (.cells #[u0, u1, u2] 68)) z.heap.size (z.heap.size + 1) [v0, v1, v2, v3] [u0, u1, u2] := by
  have h1 := Has.new (z.alloc (.cells #[v0, v1, v2, v3] 35)) 68 [u0, u1, u2]
  rw [World.size_alloc] at h1
  exact ⟨(Has.new z 35 [v0, v1, v2, v3]).alloc _, h1, (((Kept.refl [] x).drew.trans k).alloc _).alloc _⟩
theorem two2 (k : Kept [] x.drew z) : Two x ((z.alloc (.cells #[u0, u1, u2] 68)).alloc (.cells #[v0, v1, v2, v3] 35)) (z.heap.size + 1) z.heap.size [v0, v1, v2, v3] [u0, u1, u2] := by
  have h1 := Has.new (z.alloc (.cells #[u0, u1, u2] 68)) 35 [v0, v1, v2, v3]
  rw [World.size_alloc] at h1
  exact ⟨h1, (Has.new z 68 [u0, u1, u2]).alloc _, (((Kept.refl [] x).drew.trans k).alloc _).alloc _⟩
theorem two3 {o : Obj} {cs : List Value} (hl : cs.length = 4) (h : Has z x.heap.size 35 cs) (k : Kept [] (x.alloc o).drew z) : Two x ((((((z.setCell ⟨x.heap.size, 0, none⟩ v0).setCell ⟨x.heap.size, 1, none⟩ v1).setCell ⟨x.heap.size, 2, none⟩ v2).setCell ⟨x.heap.size, 3, none⟩ v3)).alloc (.cells #[u0, u1, u2] 68)) x.heap.size z.heap.size [v0, v1, v2, v3] [u0, u1, u2] := by
  match cs, hl with
  | [a0, a1, a2, a3], _ =>
    have h1 := Has.new ((((z.setCell ⟨x.heap.size, 0, none⟩ v0).setCell ⟨x.heap.size, 1, none⟩ v1).setCell ⟨x.heap.size, 2, none⟩ v2).setCell ⟨x.heap.size, 3, none⟩ v3) 68 [u0, u1, u2]
    simp only [World.size_setCell] at h1
    exact ⟨(Hd.put4_has h v0 v1 v2 v3).alloc _, h1, (Hd.put4_kept (((Kept.refl [] x).alloc o).drew.trans k) (.inr (Nat.le_refl _)) v0 v1 v2 v3).alloc _⟩
theorem two4 {o p : Obj} {cs ds : List Value} (hl : cs.length = 4) (hm : ds.length = 3) (h : Has z x.heap.size 35 cs) (t : Has z (x.heap.size + 1) 68 ds) (k : Kept [] ((x.alloc o).alloc p).drew z) :
    Two x (((((((z.setCell ⟨x.heap.size, 0, none⟩ v0).setCell ⟨x.heap.size, 1, none⟩ v1).setCell ⟨x.heap.size, 2, none⟩ v2).setCell ⟨x.heap.size, 3, none⟩ v3).setCell ⟨x.heap.size + 1, 0, none⟩ u0).setCell ⟨x.heap.size + 1, 1, none⟩ u1).setCell ⟨x.heap.size + 1, 2, none⟩ u2) x.heap.size (x.heap.size + 1) [v0, v1, v2, v3] [u0, u1, u2] := by
  match cs, hl, ds, hm with
  | [a0, a1, a2, a3], _, [b0, b1, b2], _ =>
    have n1 : x.heap.size ≠ x.heap.size + 1 := by omega
    have h1 := Hd.put4_has h v0 v1 v2 v3
    have h2 : Has (Hd.put4 x.heap.size v0 v1 v2 v3 z) (x.heap.size + 1) 68 [b0, b1, b2] := (((t.beside _ n1.symm _).beside _ n1.symm _).beside _ n1.symm _).beside _ n1.symm _
    have h3 := Tb.put3_has h2 u0 u1 u2
    have h4 : Has (Tb.put3 (x.heap.size + 1) u0 u1 u2 (Hd.put4 x.heap.size v0 v1 v2 v3 z)) x.heap.size 35 [v0, v1, v2, v3] := ((h1.beside _ n1 _).beside _ n1 _).beside _ n1 _
    exact ⟨h4, h3, Tb.put3_kept (Hd.put4_kept ((((Kept.refl [] x).alloc o).alloc p).drew.trans k) (.inr (Nat.le_refl _)) v0 v1 v2 v3) (.inr (Nat.le_succ _)) u0 u1 u2⟩
theorem two5 {o : Obj} {ds : List Value} (hm : ds.length = 3) (t : Has z x.heap.size 68 ds) (k : Kept [] (x.alloc o).drew z) : Two x ((((z.setCell ⟨x.heap.size, 0, none⟩ u0).setCell ⟨x.heap.size, 1, none⟩ u1).setCell ⟨x.heap.size, 2, none⟩ u2).alloc (.cells #[v0, v1, v2, v3] 35)) z.heap.size x.heap.size [v0, v1, v2, v3] [u0, u1, u2] := by
  match ds, hm with
  | [b0, b1, b2], _ =>
    have h1 := Has.new (((z.setCell ⟨x.heap.size, 0, none⟩ u0).setCell ⟨x.heap.size, 1, none⟩ u1).setCell ⟨x.heap.size, 2, none⟩ u2) 35 [v0, v1, v2, v3]
    simp only [World.size_setCell] at h1
    exact ⟨h1, (Tb.put3_has t u0 u1 u2).alloc _, (Tb.put3_kept (((Kept.refl [] x).alloc o).drew.trans k) (.inr (Nat.le_refl _)) u0 u1 u2).alloc _⟩
theorem two6 {o p : Obj} {cs ds : List Value} (hl : cs.length = 4) (hm : ds.length = 3) (h : Has z (x.heap.size + 1) 35 cs) (t : Has z x.heap.size 68 ds) (k : Kept [] ((x.alloc o).alloc p).drew z) :
    Two x (((((((z.setCell ⟨x.heap.size + 1, 0, none⟩ v0).setCell ⟨x.heap.size + 1, 1, none⟩ v1).setCell ⟨x.heap.size + 1, 2, none⟩ v2).setCell ⟨x.heap.size + 1, 3, none⟩ v3).setCell ⟨x.heap.size, 0, none⟩ u0).setCell ⟨x.heap.size, 1, none⟩ u1).setCell ⟨x.heap.size, 2, none⟩ u2) (x.heap.size + 1) x.heap.size [v0, v1, v2, v3] [u0, u1, u2] := by
  match cs, hl, ds, hm with
  | [a0, a1, a2, a3], _, [b0, b1, b2], _ =>
    have n1 : x.heap.size + 1 ≠ x.heap.size := by omega
    have h1 := Hd.put4_has h v0 v1 v2 v3
    have h2 : Has (Hd.put4 (x.heap.size + 1) v0 v1 v2 v3 z) x.heap.size 68 [b0, b1, b2] := (((t.beside _ n1.symm _).beside _ n1.symm _).beside _ n1.symm _).beside _ n1.symm _
    have h3 := Tb.put3_has h2 u0 u1 u2
    have h4 : Has (Tb.put3 x.heap.size u0 u1 u2 (Hd.put4 (x.heap.size + 1) v0 v1 v2 v3 z)) (x.heap.size + 1) 35 [v0, v1, v2, v3] := ((h1.beside _ n1 _).beside _ n1 _).beside _ n1 _
    exact ⟨h4, h3, Tb.put3_kept (Hd.put4_kept ((((Kept.refl [] x).alloc o).alloc p).drew.trans k) (.inr (Nat.le_succ _)) v0 v1 v2 v3) (.inr (Nat.le_refl _)) u0 u1 u2⟩
end
section
variable {x : World} {r q cap : Nat} {B : Option Addr} {d : Nat} {l : List Ty} {ws : List Int} {cs : List Cel}
/-- The document's Of, asked of the document's space. -/
theorem sof_ok (h : DSp x r q cap B d l ws) (hf : Fit x B l ws cs) (g : Int) : Calls Tryz.prog 104 #[.slice (some ⟨q, 0, none⟩) ws.length cap, .slice B l.length d, .int .i64 g] x fun e w' => e = .returned (.tuple #[(docH ws l g).val, (docT ws l g).val, .int .i64 (ofE ws l g)]) ∧ Kept [] x w' :=
  dof_any h.row.seen (by have := hf.short; omega) (wds_of hf.wm) hf.types hf.ok (by have := hf.few; omega) g
set_option maxRecDepth 100000 in
set_option maxHeartbeats 4000000 in
theorem slots_ok (h : DSp x r q cap B d l ws) (hf : Fit x B l ws cs) (g : Int) :
    Calls Tryz.prog 62 #[.pointer (some ⟨r, 0, none⟩), .int .i64 g] x fun e y => e = .returned (.int .i64 (slotsV ws l cs g)) ∧ Kept [] x y := by
  have hmost := hf.most
  have HAl := Lib.hid (all_ok h hf)
  have HAt := Lib.hid (fun (j : Nat) (hj : j < cs.length) => objAt_at (g := g) hj hf.tiled)
  have HNo := Lib.hid (fun (hn : ∀ c ∈ cs, c.h.tg = 1 → c.a ≠ g) => objAt_none (A := []) hn)
  have HOb : Hid (∀ c ∈ cs, c.a = g → c.h.tg = 1 → ofE ws l g = 0 ∧ hdH ws g = c.h) := Lib.hid fun c hc ha ht => by
    have := obj_of hf.tiled (Int.le_refl _) (Int.le_refl _) hc ht
    rwa [ha] at this
  have HOf := Lib.hid (fun y (k : Kept [] x y) => sof_ok (h.keep0 k) (hf.keep0 k) g)
  have HFa := Lib.hid (fun (he : ofE ws l g = 0) => facts_all hf.ok he)
  have HSl := Lib.hid (fun (y : World) (t : Ty) (n : Int) (hm : t.ms < 18446744073709551616) => Kd.slotsDoc_ok t.k t.wd t.ms n hm y)
  have HD := Lib.hid h
  clear h hf
  go_enter Tryz.func62, Tryz.ntmps62
  go_wp2_with fail
  refine HAl.out.mono ?_
  rintro e x2 ⟨v, rfl, hO, hV, k2⟩
  obtain ⟨Av, cv, rfl, _⟩ := back_own (Kept.refl [] _) hO
  have HSn := Lib.hid hO.seen
  have K2 := Lib.hid k2
  have H0 : Hid (∀ c ∈ cs.take 0, c.h.tg = 1 → c.a ≠ g) := Lib.hid (by simp)
  clear hO hV k2 HAl
  go_wp2_with fail
  go_loop [6] (fun t => ∃ j : Nat, t = .int .i64 (j : Int) ∧ j ≤ cs.length ∧ Hid (∀ c ∈ cs.take j, c.h.tg = 1 → c.a ≠ g)) (fun t => cs.length - (intOf t).toNat)
  case atStart => exact ⟨0, rfl, Nat.zero_le _, H0⟩
  case round =>
    obtain ⟨j, rfl, hj, hr⟩ := hrel
    clear H0
    by_cases hlt : j < cs.length
    · obtain ⟨g9, o9, rfl, hg9, c0, c1, c2, c3, c4⟩ := HSn.out.at j hlt _ rfl
      have hxm := cel_mem hlt
      have htk := cel_take hlt
      have hat := HAt.out j hlt
      have hob := HOb.out _ hxm
      obtain ⟨c, hx⟩ : ∃ c, c = cs.getD j Cel.zero := ⟨_, rfl⟩
      rw [← hx] at hxm htk hat hob c0 c1 c2 c3 c4
      have HX := Lib.hid hx
      clear hx
      by_cases hyes : c.a = g ∧ c.h.tg = 1
      · obtain ⟨ha, ht⟩ := hyes
        obtain ⟨o1, _⟩ := hat ha ht
        obtain ⟨b1, b2⟩ := hob ha ht
        obtain ⟨gn, sl, F⟩ := HFa.out b1
        have hsv : slotsV ws l cs g = ofS ws l g := by unfold slotsV; rw [o1]; rfl
        have HE := Lib.hid hsv
        have hdt : docT ws l g = ofT ws l g := by unfold docT; rw [if_pos b1]
        have hdh : docH ws l g = c.h := by unfold docH; rw [if_pos b1]; exact b2
        have HO1 := Lib.hid (fun y (k : Kept [] x y) => HOf.out y k)
        rw [hdt, hdh, b1] at HO1
        have HS1 := Lib.hid (fun y => HSl.out y (ofT ws l g) c.h.ln F.ms)
        have hsr : Kd.slotsR (ofT ws l g).k (ofT ws l g).wd (ofT ws l g).ms c.h.ln = ofS ws l g := by unfold ofS; rw [b2]
        have her : Kd.err (ofT ws l g).k (ofT ws l g).wd (ofT ws l g).ms c.h.ln = 0 := by have := F.err; rwa [b2] at this
        rw [hsr, her] at HS1
        clear hr htk hxm hat hob o1 b1 b2 F hsv hdt hdh hsr her HOf HSl HFa HOb HNo HAt
        generalize ofS ws l g = sv at *
        generalize ofT ws l g = t at *
        obtain ⟨tk, tw, tm⟩ := t
        obtain ⟨xa, ⟨xt, xy, xl, xz⟩⟩ := c
        unfold Hd.val Tb.Ty.val at HO1
        unfold typV at HS1
        simp only at *
        subst ha ht
        obtain ⟨d0, d1, f0⟩ := (HD.out.keep0 K2.out).cells
        have HO2 : Hid (∀ y, Kept [] x2 y → Calls Tryz.prog 104 #[.slice (some ⟨q, 0, none⟩) ws.length cap, .slice B l.length d, .int .i64 xa] y fun e z => e = .returned (.tuple #[.agg #[.int .u8 1, .int .i64 xy, .int .i64 xl, .int .i64 xz], .agg #[.int .u8 (tk : Int), .int .i64 tw, .int .u64 (tm : Int)], .int .i64 0]) ∧ Kept [] y z ∧ z.cell? ⟨r, 0, none⟩ = some (.slice (some ⟨q, 0, none⟩) ws.length cap) ∧ z.cell? ⟨r, 1, none⟩ = some (.slice B l.length d)) :=
          Lib.hid fun y k => (HO1.out y (K2.out.trans k)).mono fun e z ⟨he, hk⟩ => ⟨he, hk, (HD.out.keep0 ((K2.out.trans k).trans hk)).cells.1, (HD.out.keep0 ((K2.out.trans k).trans hk)).cells.2.1⟩
        have hx0 : Kept [] x2 x2 := Kept.refl _ _
        have hrl : r < x2.heap.size := (HD.out.keep0 K2.out).head.lt
        have n1 : x2.heap.size ≠ r := by omega
        have n2 : x2.heap.size + 1 ≠ r := by omega
        clear hrl
        go_upto_region 6 with fail
        go_cut [7, 8] (fun a b wx => ∃ b1 b2, a = .pointer (some ⟨b1, 0, none⟩) ∧ b = .pointer (some ⟨b2, 0, none⟩) ∧ Hid (Two x2 wx b1 b2 [.int .u8 1, .int .i64 xy, .int .i64 xl, .int .i64 xz] [.int .u8 (tk : Int), .int .i64 tw, .int .u64 (tm : Int)]))
        case first =>
          go_region_held3 (fun y => y.cell? ⟨r, 0, none⟩ = some (.slice (some ⟨q, 0, none⟩) ws.length cap) ∧ y.cell? ⟨r, 1, none⟩ = some (.slice B l.length d)) (go_keep)
            (first | (go_at_call 104; refine (HO2.out _ (by first | exact hx0.drew | exact (hx0.alloc _).drew | exact ((hx0.alloc _).alloc _).drew)).mono ?_; rintro e z1 ⟨rfl, hz1, r0, r1⟩; have n3 : z1.heap.size ≠ r := Nat.ne_of_gt (World.block_lt_of_cell? z1 _ r0); have n4 : z1.heap.size + 1 ≠ r := Nat.ne_of_gt (Nat.lt_succ_of_lt (World.block_lt_of_cell? z1 _ r0)); (first | (obtain ⟨hh, ht⟩ := box_ht hz1; obtain ⟨i0, i1, i2, i3⟩ := cells4 hh; obtain ⟨j0, j1, j2⟩ := cells3 ht; obtain ⟨fi0, fi1, fi2, fi3⟩ := free4 hh; obtain ⟨fj0, fj1, fj2⟩ := Tb.free3 ht; have kht := Lib.hid (And.intro hh (And.intro ht hz1)); clear hh ht hz1) | (obtain ⟨ht, hh⟩ := box_th hz1; obtain ⟨i0, i1, i2, i3⟩ := cells4 hh; obtain ⟨j0, j1, j2⟩ := cells3 ht; obtain ⟨fi0, fi1, fi2, fi3⟩ := free4 hh; obtain ⟨fj0, fj1, fj2⟩ := Tb.free3 ht; have kth := Lib.hid (And.intro hh (And.intro ht hz1)); clear hh ht hz1) | (obtain ⟨hh, hlt9⟩ := box_h hz1; obtain ⟨i0, i1, i2, i3⟩ := cells4 hh; obtain ⟨fi0, fi1, fi2, fi3⟩ := free4 hh; have kh := Lib.hid (And.intro hh hz1); clear hh hz1) | (obtain ⟨ht, hlt9⟩ := box_t hz1; obtain ⟨j0, j1, j2⟩ := cells3 ht; obtain ⟨fj0, fj1, fj2⟩ := Tb.free3 ht; have kt := Lib.hid (And.intro ht hz1); clear ht hz1) | (have k0 := Lib.hid hz1; clear hz1))))
          all_goals
            clear r0 r1 n3 n4
            go_wp2_with fail
            go_meet
            case rel =>
              first
              | with_reducible exact ⟨_, _, rfl, rfl, Lib.hid (two4 rfl rfl kht.out.1 kht.out.2.1 kht.out.2.2)⟩
              | with_reducible exact ⟨_, _, rfl, rfl, Lib.hid (two6 rfl rfl kth.out.1 kth.out.2.1 kth.out.2.2)⟩
              | with_reducible exact ⟨_, _, rfl, rfl, Lib.hid (two3 rfl kh.out.1 kh.out.2)⟩
              | with_reducible exact ⟨_, _, rfl, rfl, Lib.hid (two5 rfl kt.out.1 kt.out.2)⟩
              | with_reducible exact ⟨_, _, rfl, rfl, Lib.hid (two1 k0.out)⟩
              | with_reducible exact ⟨_, _, rfl, rfl, Lib.hid (two2 k0.out)⟩
        case rest =>
          obtain ⟨b1, b2, rfl, rfl, hcc⟩ := hcut
          obtain ⟨hb1, hb2, hk3⟩ := hcc.out
          obtain ⟨j0, j1, j2⟩ := cells3 hb2
          obtain ⟨g8, o8, e8, _, m0, m1, m2, m3, m4⟩ := (HSn.out.keep0 hk3).at j hlt _ HX.out
          injection e8 with e8
          injection e8 with e8 e9
          subst e8 e9
          have HS2 : Hid (∀ y, Kept [] wc y → Calls Tryz.prog 37 #[.agg #[.int .u8 (tk : Int), .int .i64 tw, .int .u64 (tm : Int)], .int .i64 xl] y fun e z => e = .returned (.tuple #[.int .i64 sv, .int .i64 0]) ∧ Kept [] wc z ∧ z.cell? ⟨b2, 0, none⟩ = some (.int .u8 (tk : Int)) ∧ z.cell? ⟨b2, 1, none⟩ = some (.int .i64 tw) ∧ z.cell? ⟨b2, 2, none⟩ = some (.int .u64 (tm : Int)) ∧ z.cell? ⟨g9, o9 + j * 5 + 3, none⟩ = some (.int .i64 xl)) :=
            Lib.hid fun y k => (HS1.out y).mono fun e z ⟨he, hk⟩ => by
              have kz := k.trans hk
              obtain ⟨i0, i1, i2⟩ := cells3 (hb2.keep0 kz)
              refine ⟨he, kz, i0, i1, i2, ?_⟩
              obtain ⟨g8, o8, e8, _, m0, m1, m2, m3, m4⟩ := (HSn.out.keep0 (hk3.trans kz)).at j hlt _ HX.out
              injection e8 with e8
              injection e8 with e8 e9
              subst e8 e9
              exact m3
          have hw0 : Kept [] wc wc := Kept.refl _ _
          have HK3 := Lib.hid (K2.out.trans hk3)
          clear hcc hb1 hb2 hk3 m0 m1 m2 m4 HS1 c0 c1 c2 c3 c4 d0 d1 f0
          go_wp2_with fail
          go_region_held3 (fun y => y.cell? ⟨b2, 0, none⟩ = some (.int .u8 (tk : Int)) ∧ y.cell? ⟨b2, 1, none⟩ = some (.int .i64 tw) ∧ y.cell? ⟨b2, 2, none⟩ = some (.int .u64 (tm : Int)) ∧ y.cell? ⟨g9, o9 + j * 5 + 3, none⟩ = some (.int .i64 xl)) (go_keep)
            (first
              | (go_at_call 37; refine (HS2.out _ (by first | exact hw0.drew | exact hw0 | exact hw0.drewN _)).mono ?_; rintro e z2 ⟨rfl, hz2, r0, r1, r2, r3⟩))
          all_goals
            have HKz := Lib.hid (HK3.out.trans hz2)
            clear r0 r1 r2 r3 hz2 j0 j1 j2 m3
            go_wp2_with fail
            go_ret
            exact ⟨ret_int HE.out.symm, HKz.out⟩
      · have HN : Hid (∀ c ∈ cs.take (j + 1), c.h.tg = 1 → c.a ≠ g) := Lib.hid fun e he => by
          rw [htk] at he
          rcases List.mem_append.1 he with he | he
          · exact hr.out e he
          · rw [List.mem_singleton.1 he]
            exact fun h1 h2 => hyes ⟨h2, h1⟩
        clear hr htk HOf HSl HFa HOb HNo HAt hxm hat hob
        obtain ⟨xa, ⟨xt, xy, xl, xz⟩⟩ := c
        simp only at *
        by_cases ha : xa = g
        · subst ha
          have hb : (xt == 1) = false := by simpa using fun h => hyes ⟨rfl, h⟩
          clear hyes
          go_wp2_with fail
          go_round
          case rel => exact ⟨j + 1, by go_num, by omega, HN⟩
          case measure => simp [intOf] <;> omega
        · have hb : (xa == g) = false := by simpa using ha
          clear hyes ha
          go_wp2_with fail
          go_round
          case rel => exact ⟨j + 1, by go_num, by omega, HN⟩
          case measure => simp [intOf] <;> omega
    · obtain rfl : j = cs.length := by omega
      have hn := hr.out
      rw [List.take_length] at hn
      have HE : Hid (slotsV ws l cs g = 0) := Lib.hid (by unfold slotsV; rw [HNo.out hn]; rfl)
      clear hr hn
      go_wp2_with fail
      go_ret
      exact ⟨ret_int HE.out.symm, K2.out⟩
end
end Go.Proofs.YtdfnphgjjodfoaaGreatDoor.Sp
