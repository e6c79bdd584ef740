/-
  The law FindEvery returns true.
-/
import Derived.Test.YtdfnphgjjodfoaaGreatDoorG47
import Derived.Test.YtdfnphgjjodfoaaGreatDoorG50
import Derived.Test.YtdfnphgjjodfoaaGreatDoorFdDoc
import Derived.Test.YtdfnphgjjodfoaaGreatDoorG46
import Derived.Test.YtdfnphgjjodfoaaGreatDoorG44
import Derived.Test.YtdfnphgjjodfoaaGreatDoorG29
namespace Go.Proofs.YtdfnphgjjodfoaaGreatDoor.Fd
open Go.RowKit Go.Proofs.YtdfnphgjjodfoaaGreatDoor.Ar Go.Proofs.YtdfnphgjjodfoaaGreatDoor.Wk
open Go.Proofs.YtdfnphgjjodfoaaGreatDoor.Sp hiding Own own_from own_put back_own Seen own_cells seen_one
open Go.Proofs.YtdfnphgjjodfoaaGreatDoor.Hd (Hd Fields)
open Go.Proofs.YtdfnphgjjodfoaaGreatDoor.Tb (Ty Tab newF)
open Go.Proofs.YtdfnphgjjodfoaaGreatDoor.Wd (Table)
open Go.Proofs.YtdfnphgjjodfoaaGreatDoor.Sh (wordR wordB)
set_option linter.unusedVariables false

theorem celA_word (cs : List Cel) (n : Int) (h0 : 0 ≤ n) (h1 : n < 65536) : celA cs (1048576 + n) = celW cs n := by
  have hb : wordB (1048576 + n) = true := decide_eq_true ⟨by omega, by omega⟩
  have hr : wordR (1048576 + n) = n := by unfold wordR; rw [if_pos ⟨by omega, by omega⟩]; omega
  unfold celA
  rw [if_pos hb, hr]
/-- No address beside the words leads anywhere. -/
theorem beside_none {ws : List Int} {l : List Ty} {cs : List Cel} {a0 : Int} (hT : Tiled ws l 0 cs (gran ws)) (hg : 2 * gran ws = a0) (u : Int) (hu : ¬ (1048576 ≤ u ∧ u < 1048576 + a0)) : celA cs u = none ∧ ofA cs u = none ∧ slotA (slC ws l) cs u = none := by
  have h : celA cs u = none := by
    unfold celA
    by_cases hb : wordB u = true
    · rw [if_pos hb]
      have h1 := of_decide_eq_true hb
      refine celW_none hT (.inr ?_)
      unfold wordR
      rw [if_pos h1]
      omega
    · rw [if_neg hb]
  refine ⟨h, ?_, ?_⟩
  · unfold ofA
    rw [h]
  · unfold slotA
    rw [h]

section
variable {w : World}
set_option maxRecDepth 100000 in
set_option maxHeartbeats 16000000 in
theorem every_walk (a0 : Int) (b0 : -9223372036854775808 ≤ a0 ∧ a0 ≤ 9223372036854775807) (A1 : Option Addr) (l : List Ty) (cap1 : Nat) (A2 : Option Addr) (L : List Stp) (cap2 : Nat) (u3 : Int) (u30 : 0 ≤ u3 ∧ u3 < 18446744073709551616) (hF : Fields w) (hTb : Table w)
    (hl : l.length ≤ maxLen) (hS1 : Tb.Seen w A1 l) (hok1 : ∀ t ∈ l, t.ok) (hL : L.length ≤ maxLen) (hS2 : Sp.Steps w A2 L) (hok2 : ∀ s ∈ L, s.ok) (hrd : ∀ s ∈ L, Wk.Read w s) :
    Calls Tryz.prog 4 #[.int .i64 a0, .slice A1 l.length cap1, .slice A2 L.length cap2, .int .u64 u3] w fun e w' => e = .returned (.bool true) ∧ Kept [] w w' := by
  have HA := Lib.hid (fun y (k : Kept [] w y) => alive11_ok (hF.keep0 k) (table_keep0 hTb k))
  have HH := Lib.hid (heavy2_ok a0 A1 l.length cap1 A2 L cap2 hS2 (fun s hs => (hrd s hs).few) hl hL)
  have HPl := Lib.hid (fun (h1 : l.length ≤ 100000) (h2 : L.length ≤ 100000) (h3 : ∀ st ∈ L, st.len ≤ 300) => played_ok a0 b0 A1 l cap1 A2 L cap2 hF hTb h1 h2 hS1 hok1 hS2 hok2 hrd h3)
  have HS1 := Lib.hid hS1
  have HOk1 := Lib.hid hok1
  clear hF hTb hS1 hok1 hS2 hok2 hrd hl hL
  go_enter Tryz.func4, Tryz.ntmps4
  go_wp2_with fail
  refine HH.out.mono ?_
  rintro e y ⟨⟨b, rfl, hb⟩, rfl⟩
  clear HH
  cases b with
  | true =>
    clear hb
    go_wp2_with fail
    refine (HA.out _ (Kept.refl [] w)).mono ?_
    rintro e y ⟨rfl, hk⟩
    have HK := Lib.hid (((Kept.refl [] w)).trans hk)
    clear hk
    go_wp2_with fail
    go_ret
    exact ⟨rfl, HK.out⟩
  | false =>
    obtain ⟨⟨hn, hl, hL⟩, hEa⟩ := hb rfl
    have HPl := Lib.hid (HPl.out (by omega) (by omega) hEa)
    clear hb hEa
    go_wp2_with fail
    refine HPl.out.mono ?_
    rintro e x1 (⟨rfl, k1⟩ | ⟨s, r, ws, bs, cs, rfl, hD, hn0⟩)
    · have K1 := Lib.hid k1
      clear k1 HPl
      go_wp2_with fail
      refine (HA.out _ K1.out).mono ?_
      rintro e y ⟨rfl, hk⟩
      have HK := Lib.hid ((K1.out).trans hk)
      clear hk
      go_wp2_with fail
      go_ret
      exact ⟨rfl, HK.out⟩
    · clear HPl
      have hT := hD.mine.snd.tiled
      have hsh := hD.mine.spc.short
      have hgl := hD.mine.snd.len
      have hgs := hD.size
      have hg : gran ws ≤ 32768 := by unfold gran; omega
      have hbd := bounds_of hT hg
      have hmost : cs.length ≤ 32768 := by
        have := tiled_len hT
        omega
      have HCl : ∀ y, Kept [] x1 y → ∀ x, Kept [] y x → Calls Tryz.prog 19 #[.pointer (some ⟨s.sp, 0, none⟩)] x fun e z => ∃ v, e = .returned v ∧ Sp.Own z v cs ∧ Sp.FreshV x v ∧ Kept [] x z := fun y hy x hx => allCells_ok (hD.mine.glob.f.keep0 (hy.trans hx)) (hD.mine.spc.keep0 (hy.trans hx)) cs hD.mine.snd.scans
      have HCe := Lib.hid (fun y (k : Kept [] x1 y) u u0 u1 => fcell_ok hT hg (HCl y k) u u0 u1)
      have HOf := Lib.hid (fun y (k : Kept [] x1 y) u u0 u1 => fof_ok hT hg (HCl y k) u u0 u1)
      have HSl := Lib.hid (fun y (k : Kept [] x1 y) u u0 u1 => fslot_ok (hD.mine.glob.f.keep0 k) (hD.mine.spc.keep0 k) hT u u0 u1)
      have HK1 := Lib.hid hD.mine.kept
      have hgr : 2 * gran ws = a0 := by omega
      have hcw : ∀ wv, 0 ≤ wv → wv < 65536 → celA cs (1048576 + wv) = celW cs wv := celA_word cs
      have HOne := Lib.hid (fun c (hc : c ∈ cs) n (h1 : 2 * c.a ≤ n) (h2 : n < 2 * (c.a + c.h.sz)) => celW_one hT hc h1 h2)
      have HCw := Lib.hid hcw
      have HBe := Lib.hid (fun u (hu : ¬ (1048576 ≤ u ∧ u < 1048576 + a0)) => beside_none hT hgr u hu)
      have HBd := Lib.hid hbd
      have HT := Lib.hid hT
      have HC := Lib.hid (HCl x1 (Kept.refl _ _) x1 (Kept.refl _ _))
      have hge : 0 ≤ gran ws := by unfold gran; omega
      clear hD HCl hcw hbd hT hgl hgs hsh
      go_wp2_with fail
      refine HC.out.mono ?_
      rintro e y8 ⟨vc, rfl, hoc, _, k8⟩
      obtain ⟨Ac, cc, rfl, _⟩ := Sp.back_own (Kept.refl [] _) hoc
      have HSn := Lib.hid (fun y (k : Kept [] y8 y) => hoc.seen.keep0 k)
      have HA8 := Lib.hid (fun y (k : Kept [] y8 y) => HA.out y ((HK1.out.trans k8).trans k))
      have HW8 := Lib.hid (HK1.out.trans k8)
      have C1 := Lib.hid (fun y (k : Kept [] y8 y) => HCe.out y (k8.trans k))
      have C2 := Lib.hid (fun y (k : Kept [] y8 y) => HOf.out y (k8.trans k))
      have C3 := Lib.hid (fun y (k : Kept [] y8 y) => HSl.out y (k8.trans k))
      have H0 : Hid (Tiled ws l 0 (cs.drop 0) (gran ws) ∧ Kept [] y8 y8) := Lib.hid ⟨HT.out, Kept.refl _ _⟩
      clear hoc k8 HC HCe HOf HSl HA HK1 HS1 HOk1 HT
      go_wp2_with fail
      go_loopw [13, 14] (fun u t wr => ∃ (m : Int) (j : Nat), u = .int .i64 (2 * m) ∧ t = .int .i64 (j : Int) ∧ j ≤ cs.length ∧ 0 ≤ m ∧ m ≤ gran ws ∧ Hid (Tiled ws l m (cs.drop j) (gran ws) ∧ Kept [] y8 wr)) (fun _ t _ => cs.length - (intOf t).toNat)
      case atStart => exact ⟨0, 0, rfl, rfl, Nat.zero_le _, Int.le_refl _, hge, H0⟩
      case round =>
        clear H0
        obtain ⟨m, j, rfl, rfl, hj, hm0, hm1, hr⟩ := hrel
        by_cases hlt : j < cs.length
        · obtain ⟨gb, o, rfl, hgb, c0, c1, c2, c3, c4⟩ := (HSn.out _ hr.out.2).at j hlt _ rfl
          have hx := getD_mem hlt
          have htd := hr.out.1
          rw [drop_at hlt] at htd
          obtain ⟨x0, x1, x2, x3, x4⟩ := HBd.out _ hx
          have hxm := htd.1
          have hnx := htd.2.2.2.2
          have hle := hnx.le
          have hone := HOne.out _ hx
          have kr := hr.out.2
          generalize cs.getD j Cel.zero = x at *
          have HOn := Lib.hid hone
          have HNx := Lib.hid hnx
          clear hone hnx htd hx hr
          have hcx : ∀ wv, 2 * x.a ≤ wv → wv < 2 * (x.a + x.h.sz) → celA cs (1048576 + wv) = some x := fun wv h1 h2 => (HCw.out wv (by omega) (by unfold endC at x4; omega)).trans (HOn.out wv h1 h2)
          have hox : ∀ wv, 2 * x.a ≤ wv → wv < 2 * (x.a + x.h.sz) → ofA cs (1048576 + wv) = if x.h.tg = 1 then some x.a else none := fun wv h1 h2 => by
            unfold ofA
            rw [hcx wv h1 h2]
          have HCx := Lib.hid hcx
          have HOx := Lib.hid hox
          clear hcx hox HOn
          obtain ⟨xa, ⟨xt, xy, xl, xz⟩⟩ := x
          unfold endC at x4
          simp only at *
          subst hxm
          have hb := Has.new wr 37 [.int .i64 xa, .int .u8 xt, .int .i64 xy, .int .i64 xl, .int .i64 xz]
          have ka := kr.alloc (.cells #[.int .i64 xa, .int .u8 xt, .int .i64 xy, .int .i64 xl, .int .i64 xz] 37)
          have HI0 : Hid (Has (wr.alloc (.cells #[.int .i64 xa, .int .u8 xt, .int .i64 xy, .int .i64 xl, .int .i64 xz] 37)) wr.heap.size 37 [.int .i64 xa, .int .u8 xt, .int .i64 xy, .int .i64 xl, .int .i64 xz] ∧ Kept [] y8 (wr.alloc (.cells #[.int .i64 xa, .int .u8 xt, .int .i64 xy, .int .i64 xl, .int .i64 xz] 37))) := Lib.hid ⟨hb, ka⟩
          clear hb ka kr
          go_wp2_with fail
          generalize wr.alloc (.cells #[.int .i64 xa, .int .u8 xt, .int .i64 xy, .int .i64 xl, .int .i64 xz] 37) = w9 at *
          generalize wr.heap.size = xb at *
          clear c0 c1 c2 c3 c4
          go_loopw [13, 16] (fun u t wi => ∃ k : Nat, u = .int .i64 (2 * xa + (k : Int)) ∧ t = .int .i64 (k : Int) ∧ (k : Int) ≤ 2 * xz ∧ Hid (Has wi xb 37 [.int .i64 xa, .int .u8 xt, .int .i64 xy, .int .i64 xl, .int .i64 xz] ∧ Kept [] y8 wi)) (fun _ t _ => (2 * xz).toNat - (intOf t).toNat)
          case atStart => exact ⟨0, by simp, rfl, by omega, HI0⟩
          case round =>
            clear HI0
            obtain ⟨k, rfl, rfl, hk, hi⟩ := hrel
            obtain ⟨d0, d1, d2, d3, d4⟩ := cells5 hi.out.1
            have ki := hi.out.2
            have bi := hi.out.1
            clear hi
            by_cases hkt : (k : Int) < 2 * xz
            · obtain ⟨wv, hwv⟩ : ∃ wv : Int, 2 * xa + (k : Int) = wv := ⟨_, rfl⟩
              rw [hwv]
              have hw0 : 0 ≤ wv := by omega
              have hw1 : wv < 65536 := by omega
              have HQ1 := Lib.hid (C1.out wr ki (1048576 + wv) (by omega) (by omega))
              rw [HCx.out wv (by omega) (by omega)] at HQ1
              unfold Option.getD Option.isSome Cel.val at HQ1
              simp only at HQ1
              have hcv : IntKind.u64.wrap wv = wv := by rw [IntKind.wrap_u64]; omega
              have hcv2 : IntKind.u64.wrap (1048576 + wv) = 1048576 + wv := by rw [IntKind.wrap_u64]; omega
              have HB := Lib.hid bi
              clear bi
              by_cases ht : xt = 1
              · subst ht
                go_wp2_with fail
                refine HQ1.out.mono ?_
                rintro e z1 ⟨rfl, k1⟩
                have b1 := Has.new z1 37 [.int .i64 xa, .int .u8 1, .int .i64 xy, .int .i64 xl, .int .i64 xz]
                have ka := k1.alloc (.cells #[.int .i64 xa, .int .u8 1, .int .i64 xy, .int .i64 xl, .int .i64 xz] 37)
                have K1 := Lib.hid (ki.trans ka)
                have B1 := Lib.hid b1
                have HB1 := Lib.hid (HB.out.keep0 ka)
                have HQ2 := Lib.hid (C2.out _ K1.out (1048576 + wv) (by omega) (by omega))
                rw [HOx.out wv (by omega) (by omega), if_pos (by trivial)] at HQ2
                unfold Option.getD Option.isSome at HQ2
                simp only at HQ2
                clear b1 ka k1 ki HB HQ1 d0 d1 d2 d3 d4
                go_wp2_with fail
                generalize z1.alloc (.cells #[.int .i64 xa, .int .u8 1, .int .i64 xy, .int .i64 xl, .int .i64 xz] 37) = y1 at *
                generalize z1.heap.size = q1 at *
                refine HQ2.out.mono ?_
                rintro e z2 ⟨rfl, k2⟩
                have bz := HB1.out.keep0 k2
                have kz := K1.out.trans k2
                obtain ⟨d0, d1, d2, d3, d4⟩ := cells5 bz
                obtain ⟨e0, e1, e2, e3, e4⟩ := cells5 (B1.out.keep0 k2)
                have hso := fun y => run_other y xa 1 xy xl xz xa 1 xy xl xz
                have hng := no_guard
                have hqe := eqC_refl xa 1 xy xl xz
                have HN : Hid (Has z2 xb 37 [.int .i64 xa, .int .u8 1, .int .i64 xy, .int .i64 xl, .int .i64 xz] ∧ Kept [] y8 z2) := Lib.hid ⟨bz, kz⟩
                clear bz kz k2 HQ2 HB1 B1 K1
                go_wp2_with fail
                go_roundw
                case rel => exact ⟨k + 1, by rw [← hwv]; go_num, by go_num, by omega, HN⟩
                case measure => simp [intOf] <;> omega
              · have hne : (xt == 1) = false := by simpa using ht
                go_wp2_with fail
                refine HQ1.out.mono ?_
                rintro e z1 ⟨rfl, k1⟩
                have b1 := Has.new z1 37 [.int .i64 xa, .int .u8 xt, .int .i64 xy, .int .i64 xl, .int .i64 xz]
                have ka := k1.alloc (.cells #[.int .i64 xa, .int .u8 xt, .int .i64 xy, .int .i64 xl, .int .i64 xz] 37)
                have K1 := Lib.hid (ki.trans ka)
                have B1 := Lib.hid b1
                have HB1 := Lib.hid (HB.out.keep0 ka)
                have HQ2 := Lib.hid (C2.out _ K1.out (1048576 + wv) (by omega) (by omega))
                rw [HOx.out wv (by omega) (by omega), if_neg ht] at HQ2
                unfold Option.getD Option.isSome at HQ2
                simp only at HQ2
                clear b1 ka k1 ki HB HQ1 d0 d1 d2 d3 d4 ht
                go_wp2_with fail
                generalize z1.alloc (.cells #[.int .i64 xa, .int .u8 xt, .int .i64 xy, .int .i64 xl, .int .i64 xz] 37) = y1 at *
                generalize z1.heap.size = q1 at *
                refine HQ2.out.mono ?_
                rintro e z2 ⟨rfl, k2⟩
                have bz := HB1.out.keep0 k2
                have kz := K1.out.trans k2
                obtain ⟨d0, d1, d2, d3, d4⟩ := cells5 bz
                obtain ⟨e0, e1, e2, e3, e4⟩ := cells5 (B1.out.keep0 k2)
                have hso := fun y => run_other y xa xt xy xl xz xa xt xy xl xz
                have hng := no_guard
                have hqe := eqC_refl xa xt xy xl xz
                have HN : Hid (Has z2 xb 37 [.int .i64 xa, .int .u8 xt, .int .i64 xy, .int .i64 xl, .int .i64 xz] ∧ Kept [] y8 z2) := Lib.hid ⟨bz, kz⟩
                clear bz kz k2 HQ2 HB1 B1 K1
                go_wp2_with fail
                go_roundw
                case rel => exact ⟨k + 1, by rw [← hwv]; go_num, by go_num, by omega, HN⟩
                case measure => simp [intOf] <;> omega
            · have hke : (k : Int) = 2 * xz := by omega
              have HN : Hid (Tiled ws l (xa + xz) (cs.drop (j + 1)) (gran ws) ∧ Kept [] y8 wr) := Lib.hid ⟨HNx.out, ki⟩
              clear ki bi
              go_wp2_with fail
              go_roundw
              case rel => exact ⟨xa + xz, j + 1, by rw [show 2 * (xa + xz) = 2 * xa + (k : Int) by omega], by go_num, by omega, by omega, by omega, HN⟩
              case measure => simp [intOf] <;> omega
        · obtain rfl : j = cs.length := by omega
          have htd := hr.out.1
          rw [List.drop_length] at htd
          have hme : m = gran ws := htd
          have hma : 2 * m = a0 := by omega
          have kr := hr.out.2
          clear hr htd hme
          obtain ⟨be, hbe, hbw⟩ : ∃ be, (¬ (1048576 ≤ be ∧ be < 1048576 + a0)) ∧ ((be = u3 ∧ ¬ (1048576 ≤ u3 ∧ u3 < 1048576 + a0)) ∨ (be = 1048576 + a0 ∧ 1048576 ≤ u3 ∧ u3 < 1048576 + a0)) := by
            by_cases h : 1048576 ≤ u3 ∧ u3 < 1048576 + a0
            · exact ⟨_, by omega, .inr ⟨rfl, h⟩⟩
            · exact ⟨_, h, .inl ⟨rfl, h⟩⟩
          have hbb : 0 ≤ be ∧ be < 18446744073709551616 := by omega
          obtain ⟨n1, n2, n3⟩ := HBe.out be hbe
          have Q1 := Lib.hid (fun y k => C1.out y k be hbb.1 hbb.2)
          have Q2 := Lib.hid (fun y k => C2.out y k be hbb.1 hbb.2)
          have Q3 := Lib.hid (fun y k => C3.out y k be hbb.1 hbb.2)
          rw [n1] at Q1
          rw [n2] at Q2
          rw [n3] at Q3
          unfold Option.getD Option.isSome Cel.val Cel.zero Hd.zero at Q1
          unfold Option.getD Option.isSome at Q2 Q3
          simp only at Q1 Q2 Q3
          have hcv : IntKind.u64.wrap a0 = a0 := by rw [IntKind.wrap_u64]; omega
          have hcv2 : IntKind.u64.wrap (1048576 + a0) = 1048576 + a0 := by rw [IntKind.wrap_u64]; omega
          have KR := Lib.hid kr
          clear n1 n2 n3 hbe kr C1 C2 C3 HBe HOne HCw HSn HBd
          rcases hbw with ⟨rfl, hno⟩ | ⟨rfl, hy1, hy2⟩
          · by_cases hlo : 1048576 ≤ be
            · have hhi : decide (be < 1048576 + a0) = false := decide_eq_false (by omega)
              clear hno
              go_wp2_with fail
              refine (Q1.out _ KR.out).mono ?_
              rintro e z1 ⟨rfl, k1⟩
              have K1 := Lib.hid (KR.out.trans (k1.alloc (.cells #[.int .i64 0, .int .u8 0, .int .i64 0, .int .i64 0, .int .i64 0] 37)))
              clear k1
              go_wp2_with fail
              refine (Q2.out _ K1.out).mono ?_
              rintro e z2 ⟨rfl, k2⟩
              have K2 := Lib.hid (K1.out.trans k2)
              clear k2
              go_wp2_with fail
              refine (Q3.out _ K2.out).mono ?_
              rintro e z3 ⟨rfl, k3⟩
              have K3 := Lib.hid (K2.out.trans k3)
              clear k3
              go_wp2_with fail
              refine (HA8.out _ K3.out).mono ?_
              rintro e z4 ⟨rfl, k4⟩
              have K4 := Lib.hid (HW8.out.trans (K3.out.trans k4))
              clear k4
              go_wp2_with fail
              go_ret
              exact ⟨rfl, K4.out⟩
            · have hlo2 : decide (1048576 ≤ be) = false := decide_eq_false hlo
              clear hno hlo
              go_wp2_with fail
              refine (Q1.out _ KR.out).mono ?_
              rintro e z1 ⟨rfl, k1⟩
              have K1 := Lib.hid (KR.out.trans (k1.alloc (.cells #[.int .i64 0, .int .u8 0, .int .i64 0, .int .i64 0, .int .i64 0] 37)))
              clear k1
              go_wp2_with fail
              refine (Q2.out _ K1.out).mono ?_
              rintro e z2 ⟨rfl, k2⟩
              have K2 := Lib.hid (K1.out.trans k2)
              clear k2
              go_wp2_with fail
              refine (Q3.out _ K2.out).mono ?_
              rintro e z3 ⟨rfl, k3⟩
              have K3 := Lib.hid (K2.out.trans k3)
              clear k3
              go_wp2_with fail
              refine (HA8.out _ K3.out).mono ?_
              rintro e z4 ⟨rfl, k4⟩
              have K4 := Lib.hid (HW8.out.trans (K3.out.trans k4))
              clear k4
              go_wp2_with fail
              go_ret
              exact ⟨rfl, K4.out⟩
          · go_wp2_with fail
            refine (Q1.out _ KR.out).mono ?_
            rintro e z1 ⟨rfl, k1⟩
            have K1 := Lib.hid (KR.out.trans (k1.alloc (.cells #[.int .i64 0, .int .u8 0, .int .i64 0, .int .i64 0, .int .i64 0] 37)))
            clear k1
            go_wp2_with fail
            refine (Q2.out _ K1.out).mono ?_
            rintro e z2 ⟨rfl, k2⟩
            have K2 := Lib.hid (K1.out.trans k2)
            clear k2
            go_wp2_with fail
            refine (Q3.out _ K2.out).mono ?_
            rintro e z3 ⟨rfl, k3⟩
            have K3 := Lib.hid (K2.out.trans k3)
            clear k3
            go_wp2_with fail
            refine (HA8.out _ K3.out).mono ?_
            rintro e z4 ⟨rfl, k4⟩
            have K4 := Lib.hid (HW8.out.trans (K3.out.trans k4))
            clear k4
            go_wp2_with fail
            go_ret
            exact ⟨rfl, K4.out⟩
end
end Go.Proofs.YtdfnphgjjodfoaaGreatDoor.Fd
