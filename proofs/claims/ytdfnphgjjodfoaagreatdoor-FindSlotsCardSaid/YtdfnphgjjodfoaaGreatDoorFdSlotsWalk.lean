/-
  The law FindSlots returns true.
-/
import Derived.Test.YtdfnphgjjodfoaaGreatDoorG47
import Derived.Test.YtdfnphgjjodfoaaGreatDoorG50
import Derived.Test.YtdfnphgjjodfoaaGreatDoorG46
import Derived.Test.YtdfnphgjjodfoaaGreatDoorG44
import Derived.Deep.RegionHeld3
namespace Go.Proofs.YtdfnphgjjodfoaaGreatDoor.Fd
open Go.RowKit Go.Proofs.YtdfnphgjjodfoaaGreatDoor.Ar Go.Proofs.YtdfnphgjjodfoaaGreatDoor.Wk
open Go.Proofs.YtdfnphgjjodfoaaGreatDoor.Sp hiding Own own_from own_put back_own Seen own_cells seen_one
open Go.Proofs.YtdfnphgjjodfoaaGreatDoor.Hd (Hd Fields)
open Go.Proofs.YtdfnphgjjodfoaaGreatDoor.Tb (Ty Tab newF)
open Go.Proofs.YtdfnphgjjodfoaaGreatDoor.Wd (Table)
open Go.Proofs.YtdfnphgjjodfoaaGreatDoor.Sh (wordR wordB)
set_option linter.unusedVariables false

theorem slotW_mem {sl : Cel → Int} {cs : List Cel} {n : Int} {r : Int × Int} (h : slotW sl cs n = some r) : ∃ c ∈ cs, c.h.tg = 1 ∧ r.1 = c.a ∧ r.2 = n - 2 * c.a - 1 ∧ 0 ≤ r.2 ∧ r.2 < sl c := by
  unfold slotW at h
  cases hc : celW cs n with
  | none => rw [hc] at h; cases h
  | some c =>
    rw [hc] at h
    by_cases hh : c.h.tg = 1 ∧ 0 ≤ n - 2 * c.a - 1 ∧ n - 2 * c.a - 1 < sl c
    · have h : (if c.h.tg = 1 ∧ 0 ≤ n - 2 * c.a - 1 ∧ n - 2 * c.a - 1 < sl c then some (c.a, n - 2 * c.a - 1) else none) = some r := h
      rw [if_pos hh] at h
      obtain rfl := Option.some.inj h
      exact ⟨c, (celW_mem hc).1, hh.1, rfl, rfl, hh.2.1, hh.2.2⟩
    · have h : (if c.h.tg = 1 ∧ 0 ≤ n - 2 * c.a - 1 ∧ n - 2 * c.a - 1 < sl c then some (c.a, n - 2 * c.a - 1) else none) = some r := h
      rw [if_neg hh] at h
      cases h
theorem slAll_snoc (sl : Cel → Int) (cs : List Cel) (c : Cel) : slAll sl (cs ++ [c]) = slAll sl cs + if c.h.tg = 1 then sl c else 0 := by
  rw [slAll_append]
  show slAll sl cs + ((if c.h.tg = 1 then sl c else 0) + 0) = _
  omega
theorem take_cel {cs : List Cel} {j : Nat} (hj : j < cs.length) : cs.take (j + 1) = cs.take j ++ [cs.getD j Cel.zero] := by
  rw [List.take_add_one, List.getElem?_eq_getElem hj, List.getD_eq_getElem?_getD, List.getElem?_eq_getElem hj]
  rfl

section
variable {w : World}
set_option maxRecDepth 100000 in
set_option maxHeartbeats 16000000 in
theorem slots_walk (a0 : Int) (b0 : -9223372036854775808 ≤ a0 ∧ a0 ≤ 9223372036854775807) (A1 : Option Addr) (l : List Ty) (cap1 : Nat) (A2 : Option Addr) (L : List Stp) (cap2 : Nat)  (hF : Fields w) (hTb : Table w)
    (hl : l.length ≤ maxLen) (hS1 : Tb.Seen w A1 l) (hok1 : ∀ t ∈ l, t.ok) (hL : L.length ≤ maxLen) (hS2 : Sp.Steps w A2 L) (hok2 : ∀ s ∈ L, s.ok) (hrd : ∀ s ∈ L, Wk.Read w s) :
    Calls Tryz.prog 5 #[.int .i64 a0, .slice A1 l.length cap1, .slice A2 L.length cap2] w fun e w' => e = .returned (.bool true) ∧ Kept [] w w' := by
  have HA := Lib.hid (fun y (k : Kept [] w y) => alive11_ok (hF.keep0 k) (table_keep0 hTb k))
  have HH := Lib.hid (heavy2_ok a0 A1 l.length cap1 A2 L cap2 hS2 (fun s hs => (hrd s hs).few) hl hL)
  have HPl := Lib.hid (fun (h1 : l.length ≤ 100000) (h2 : L.length ≤ 100000) (h3 : ∀ st ∈ L, st.len ≤ 300) => played_ok a0 b0 A1 l cap1 A2 L cap2 hF hTb h1 h2 hS1 hok1 hS2 hok2 hrd h3)
  have HS1 := Lib.hid hS1
  have HOk1 := Lib.hid hok1
  clear hF hTb hS1 hok1 hS2 hok2 hrd hl hL
  go_enter Tryz.func5, Tryz.ntmps5
  go_wp2_with fail
  refine HH.out.mono ?_
  rintro e y ⟨⟨b, rfl, hb⟩, rfl⟩
  clear HH
  cases b with
  | true =>
    clear hb
    go_wp2_with fail
    refine (HA.out _ (Kept.refl [] w)).mono ?_
    rintro e y ⟨rfl, hk⟩
    have HK := Lib.hid (((Kept.refl [] w)).trans hk)
    clear hk
    go_wp2_with fail
    go_ret
    exact ⟨rfl, HK.out⟩
  | false =>
    obtain ⟨⟨hn, hl, hL⟩, hEa⟩ := hb rfl
    have HPl := Lib.hid (HPl.out (by omega) (by omega) hEa)
    clear hb hEa
    go_wp2_with fail
    refine HPl.out.mono ?_
    rintro e x1 (⟨rfl, k1⟩ | ⟨s, r, ws, bs, cs, rfl, hD, hn0⟩)
    · have K1 := Lib.hid k1
      clear k1 HPl
      go_wp2_with fail
      refine (HA.out _ K1.out).mono ?_
      rintro e y ⟨rfl, hk⟩
      have HK := Lib.hid ((K1.out).trans hk)
      clear hk
      go_wp2_with fail
      go_ret
      exact ⟨rfl, HK.out⟩
    · clear HPl
      have hT := hD.mine.snd.tiled
      have hsh := hD.mine.spc.short
      have hgl := hD.mine.snd.len
      have hgs := hD.size
      have hg : gran ws ≤ 32768 := by unfold gran; omega
      have hbd := bounds_of hT hg
      have hmost : cs.length ≤ 32768 := by
        have := tiled_len hT
        omega
      have HCl : ∀ y, Kept [] x1 y → ∀ x, Kept [] y x → Calls Tryz.prog 19 #[.pointer (some ⟨s.sp, 0, none⟩)] x fun e z => ∃ v, e = .returned v ∧ Sp.Own z v cs ∧ Sp.FreshV x v ∧ Kept [] x z := fun y hy x hx => allCells_ok (hD.mine.glob.f.keep0 (hy.trans hx)) (hD.mine.spc.keep0 (hy.trans hx)) cs hD.mine.snd.scans
      have HCe := Lib.hid (fun y (k : Kept [] x1 y) u u0 u1 => fcell_ok hT hg (HCl y k) u u0 u1)
      have HOf := Lib.hid (fun y (k : Kept [] x1 y) u u0 u1 => fof_ok hT hg (HCl y k) u u0 u1)
      have HSl := Lib.hid (fun y (k : Kept [] x1 y) u u0 u1 => fslot_ok (hD.mine.glob.f.keep0 k) (hD.mine.spc.keep0 k) hT u u0 u1)
      have HK1 := Lib.hid hD.mine.kept
      have hgr : 2 * gran ws = a0 := by omega
      have hge : 0 ≤ gran ws := by unfold gran; omega
      have hwl : a0 ≤ (ws.length : Int) := by have : gran ws = (ws.length : Int) / 2 := rfl; omega
      have hsb : ∀ c ∈ cs, c.h.tg = 1 → 0 ≤ slC ws l c ∧ 1 + slC ws l c ≤ 2 * c.h.sz := fun c hc ht => slC_bound hD.mine.spc hT hc ht
      have HSb := Lib.hid hsb
      have HStp : Hid (∀ n, slB (slC ws l) cs (n + 1) = slB (slC ws l) cs n + if (slotW (slC ws l) cs n).isSome = true then 1 else 0) := Lib.hid fun n => slB_step hT hsb
      have HEnd : Hid (slB (slC ws l) cs a0 = slAll (slC ws l) cs) := Lib.hid (by rw [← hgr]; exact slB_end hT hsb)
      have hlow : slB (slC ws l) cs 0 = 0 := slB_low (fun c hc => by have := hbd c hc; omega) fun c hc ht => (hsb c hc ht).1
      have HSw := Lib.hid (fun n h0 h1 => slotA_word (slC ws l) cs n h0 h1)
      have HVw := Lib.hid (fun y (k : Kept [] x1 y) (c : Cel) (hc : c ∈ cs) (ht : c.h.tg = 1) => view_ok (hD.mine.glob.f.keep0 k) (hD.mine.spc.keep0 k) hT hc ht)
      have HAr := Lib.hid (fun y (k : Kept [] x1 y) => arena_ok (hD.mine.spc.keep0 k))
      have HTb := Lib.hid (fun y (k : Kept [] x1 y) => table_ok (hD.mine.spc.keep0 k))
      have HRw := Lib.hid (fun y (k : Kept [] x1 y) => (hD.mine.spc.keep0 k).ar)
      have HBd := Lib.hid hbd
      have HC := Lib.hid (fun y k => HCl x1 (Kept.refl _ _) y k)
      have HA1 := Lib.hid (fun y (k : Kept [] x1 y) => HA.out y (HK1.out.trans k))
      have H0 : Hid ((0 : Int) = slB (slC ws l) cs ((0 : Nat) : Int) ∧ Kept [] x1 x1) := Lib.hid ⟨hlow.symm, Kept.refl _ _⟩
      have hEnd : ∀ c ∈ cs, 2 * (c.a + c.h.sz) ≤ (ws.length : Int) := fun c hc => by
        have h1 := (hT.mem c hc).2.1
        have h2 : gran ws = (ws.length : Int) / 2 := rfl
        omega
      clear hD HCl hbd hT hgl hgs hsh hsb hlow HA HS1 HOk1 HCe HOf
      have hla : a0 ≤ 65536 := by omega
      go_wp2_with fail
      go_loopw [10, 11] (fun u t wr => ∃ (av : Int) (n : Nat), u = .int .i64 av ∧ t = .int .i64 (n : Int) ∧ (n : Int) ≤ a0 ∧ 0 ≤ av ∧ av ≤ n ∧ Hid (av = slB (slC ws l) cs (n : Int) ∧ Kept [] x1 wr)) (fun _ t _ => a0.toNat - (intOf t).toNat)
      case atStart => exact ⟨0, 0, rfl, rfl, by omega, Int.le_refl _, by omega, H0⟩
      case round =>
        clear H0
        obtain ⟨av, n, rfl, rfl, hn, hav, hav2, hr⟩ := hrel
        have kr := hr.out.2
        have hst := HStp.out (n : Int)
        rw [← hr.out.1] at hst
        have heq := hr.out.1
        clear hr
        by_cases hlt : (n : Int) < a0
        · have hcv : IntKind.u64.wrap (n : Int) = (n : Int) := by rw [IntKind.wrap_u64]; omega
          have hcv2 : IntKind.u64.wrap (1048576 + (n : Int)) = 1048576 + (n : Int) := by rw [IntKind.wrap_u64]; omega
          have HQ := Lib.hid (HSl.out wr kr (1048576 + (n : Int)) (by omega) (by omega))
          rw [HSw.out (n : Int) (by omega) (by omega)] at HQ
          have HSt := Lib.hid hst
          clear hst heq
          cases hs : slotW (slC ws l) cs (n : Int) with
          | none =>
            rw [hs] at HQ HSt
            unfold Option.getD Option.isSome at HQ
            simp only at HQ
            have HN : Hid (∀ y, Kept [] wr y → av = slB (slC ws l) cs ((n + 1 : Nat) : Int) ∧ Kept [] x1 y) := Lib.hid fun y hy => ⟨by have := HSt.out; simp at this; push_cast; omega, kr.trans hy⟩
            clear hs HSt
            go_wp2_with fail
            refine HQ.out.mono ?_
            rintro e z1 ⟨rfl, k1⟩
            have HN1 := Lib.hid (HN.out z1 k1)
            clear k1 HQ HN kr
            go_wp2_with fail
            go_roundw
            case rel => exact ⟨av, n + 1, rfl, by go_num, by omega, hav, by omega, HN1⟩
            case measure => simp [intOf] <;> omega
          | some rr =>
            obtain ⟨c, hc, ht, hg1, hg2, hg3, hg4⟩ := slotW_mem hs
            obtain ⟨b1, b2, b3, b4, b5⟩ := HBd.out c hc
            obtain ⟨s1, s2⟩ := HSb.out c hc ht
            rw [hs] at HQ HSt
            obtain ⟨g, k⟩ := rr
            simp only at hg1 hg2 hg3 hg4
            unfold Option.getD Option.isSome at HQ
            simp only at HQ
            have HStn : Hid (av + 1 = slB (slC ws l) cs ((n + 1 : Nat) : Int)) := Lib.hid (by have := HSt.out; simp at this; push_cast; omega)
            have hb5 : c.a + c.h.sz ≤ 32768 := b5
            have HVc := Lib.hid (fun y k => HVw.out y k c hc ht)
            rw [← hg1] at HVc
            have hln : 2 * g + 1 + slC ws l c ≤ (ws.length : Int) := by
              have h1 := hEnd c hc
              omega
            have HKn : Hid (2 * g + 1 + k = (n : Int)) := Lib.hid (by omega)
            have hg0 : 0 ≤ g := by omega
            clear hs HSt hc b5 hg1 hg2 b1 b2 b3 b4 s2 hb5 ht
            generalize slC ws l c = sl at *
            go_wp2_with fail
            refine HQ.out.mono ?_
            rintro e z1 ⟨rfl, k1⟩
            have K1 := Lib.hid (kr.trans k1)
            clear k1 kr HQ
            have QA := Lib.hid (HAr.out z1 K1.out)
            have QT := Lib.hid (HTb.out z1 K1.out)
            have QV := Lib.hid (HVc.out z1 K1.out)
            go_wp2_with fail
            refine QA.out.mono ?_
            rintro e y ⟨rfl, rfl⟩
            go_wp2_with fail
            refine QT.out.mono ?_
            rintro e y ⟨rfl, rfl⟩
            go_wp2_with fail
            refine QV.out.mono ?_
            rintro e z2 ⟨v, rfl, hv, k2⟩
            have K2 := Lib.hid (K1.out.trans k2)
            obtain ⟨mm, har⟩ := HRw.out z2 K2.out
            have hwi : Ar.within ws.length (n : Int) 1 = true := (Ar.within_iff _ _ _).2 ⟨by omega, by omega, by omega⟩
            have QA2 := Lib.hid (HAr.out z2 K2.out)
            have QL := Lib.hid (load_any har (n : Int) (by omega) (by omega))
            rw [hwi, show loadV ws (n : Int) = ws.getD n 0 by unfold loadV; rw [if_pos hwi]; rfl, show errOf true = 0 from rfl] at QL
            have QW := Lib.hid (Sh.vload_ok hv har k (by omega) (by omega) hln)
            rw [show Sh.vloadV ws g sl k = ws.getD n 0 by unfold Sh.vloadV; rw [if_pos ⟨hg3, hg4⟩, show (2 * g + 1 + k).toNat = n by have := HKn.out; omega], show Sh.slotE sl k = 0 from if_pos ⟨hg3, hg4⟩] at QW
            generalize ws.getD n 0 = u at *
            clear hv k2 har hwi QA QT QV K1 HKn hln
            go_wp2_with fail
            refine QA2.out.mono ?_
            rintro e y ⟨rfl, rfl⟩
            go_wp2_with fail
            refine QL.out.mono ?_
            rintro e y ⟨rfl, rfl⟩
            go_wp2_with fail
            refine QW.out.mono ?_
            rintro e y ⟨rfl, rfl⟩
            have HN1 : Hid (av + 1 = slB (slC ws l) cs ((n + 1 : Nat) : Int) ∧ Kept [] x1 z2) := Lib.hid ⟨HStn.out, K2.out⟩
            clear QA2 QL QW K2 HStn
            go_wp2_with fail
            go_roundw
            case rel => exact ⟨av + 1, n + 1, rfl, by go_num, by omega, by omega, by omega, HN1⟩
            case measure => simp [intOf] <;> omega
        · have hna : (n : Int) = a0 := by omega
          have HAv : Hid (av = slAll (slC ws l) cs) := Lib.hid (by rw [heq, hna]; exact HEnd.out)
          have QC := Lib.hid (HC.out wr kr)
          have KR := Lib.hid kr
          clear kr hst heq HStp HEnd HSw HSl HC hna
          go_wp2_with fail
          refine QC.out.mono ?_
          rintro e y8 ⟨vc, rfl, hoc, _, k8⟩
          obtain ⟨Ac, cc, rfl, _⟩ := Sp.back_own (Kept.refl [] _) hoc
          have HSn := Lib.hid (fun y (k : Kept [] y8 y) => hoc.seen.keep0 k)
          have K8 := Lib.hid (KR.out.trans k8)
          have H0 : Hid ((0 : Int) = slAll (slC ws l) (cs.take 0) ∧ Kept [] y8 y8) := Lib.hid ⟨rfl, Kept.refl _ _⟩
          clear hoc k8 QC KR
          go_wp2_with fail
          go_loopw [22, 23] (fun u t wr => ∃ (wv : Int) (j : Nat), u = .int .i64 wv ∧ t = .int .i64 (j : Int) ∧ j ≤ cs.length ∧ 0 ≤ wv ∧ wv ≤ 2000000 * (j : Int) ∧ Hid (wv = slAll (slC ws l) (cs.take j) ∧ Kept [] y8 wr)) (fun _ t _ => cs.length - (intOf t).toNat)
          case atStart => exact ⟨0, 0, rfl, rfl, Nat.zero_le _, Int.le_refl _, by omega, H0⟩
          case round =>
            clear H0
            obtain ⟨wv, j, rfl, rfl, hj, hw0, hw1, hr⟩ := hrel
            have kr := hr.out.2
            have heq := hr.out.1
            clear hr
            by_cases hlt2 : j < cs.length
            · obtain ⟨gb, o, rfl, hgb, c0, c1, c2, c3, c4⟩ := (HSn.out _ kr).at j hlt2 _ rfl
              have hx := getD_mem hlt2
              have hsn := slAll_snoc (slC ws l) (cs.take j) (cs.getD j Cel.zero)
              rw [← take_cel hlt2, ← heq] at hsn
              obtain ⟨b1, b2, b3, b4, b5⟩ := HBd.out _ hx
              by_cases ht : (cs.getD j Cel.zero).h.tg = 1
              · obtain ⟨s1, s2⟩ := HSb.out _ hx ht
                rw [if_pos ht] at hsn
                have HVc := Lib.hid (fun y k => HVw.out y k _ hx ht)
                have HCl : Hid (∀ y, Kept [] wr y → y.cell? ⟨gb, o + j * 5, none⟩ = some (.int .i64 (cs.getD j Cel.zero).a)) := Lib.hid fun y ky => (World.cell?_of_block (w := wr) (ky.old gb hgb (by simp))).trans c0
                rw [ht] at c1
                have HSn2 := Lib.hid hsn
                clear hsn hx heq c2 c3 c4 ht
                generalize slC ws l (cs.getD j Cel.zero) = sl at *
                generalize (cs.getD j Cel.zero).a = xa at *
                have K9 := Lib.hid (K8.out.trans kr)
                have QA : Hid (∀ y, Kept [] wr y → Calls Tryz.prog 21 #[.pointer (some ⟨s.sp, 0, none⟩)] y fun e z => e = .returned (.pointer (some ⟨s.ap, 0, none⟩)) ∧ y = z) := Lib.hid fun y k => HAr.out y (K9.out.trans k)
                have QT : Hid (∀ y, Kept [] wr y → Calls Tryz.prog 22 #[.pointer (some ⟨s.sp, 0, none⟩)] y fun e z => e = .returned (.pointer (some ⟨s.tp, 0, none⟩)) ∧ y = z) := Lib.hid fun y k => HTb.out y (K9.out.trans k)
                have QO : Hid (∀ y, Kept [] wr y → Calls Tryz.prog 20 #[.pointer (some ⟨s.ap, 0, none⟩), .pointer (some ⟨s.tp, 0, none⟩), .int .i64 xa] y fun e z => ∃ v, e = .returned (.tuple #[.pointer (some ⟨v, 0, none⟩), .int .i64 0]) ∧ Hid ((∃ g hd t, Sh.View z v s.ap g hd t sl) ∧ Kept [] wr z) ∧ z.cell? ⟨gb, o + j * 5, none⟩ = some (.int .i64 xa)) := Lib.hid fun y k => (HVc.out y (K9.out.trans k)).mono fun e z ⟨v, e1, e2, e3⟩ => ⟨v, e1, Lib.hid ⟨⟨_, _, _, e2⟩, k.trans e3⟩, HCl.out z (k.trans e3)⟩
                have KR := Lib.hid kr
                clear kr K9 HVc HCl
                generalize s.sp = sp at *
                generalize s.ap = ap at *
                generalize s.tp = tp at *
                go_wp2_with fail
                go_region_held3 (fun y => y.cell? ⟨gb, o + j * 5, none⟩ = some (.int .i64 xa)) (go_keep)
                  (first
                    | (go_at_call 21; refine (QA.out _ ?_).mono ?_; (first | exact Kept.refl _ _ | exact (Kept.refl _ _).drewN _ | exact (Kept.refl _ _).drew); rintro e z1 ⟨rfl, rfl⟩)
                    | (go_at_call 22; refine (QT.out _ ?_).mono ?_; (first | exact Kept.refl _ _ | exact (Kept.refl _ _).drewN _ | exact (Kept.refl _ _).drew); rintro e z1 ⟨rfl, rfl⟩)
                    | (go_at_call 20; refine (QO.out _ ?_).mono ?_; (first | exact Kept.refl _ _ | exact (Kept.refl _ _).drewN _ | exact (Kept.refl _ _).drew); rintro e z2 ⟨v, rfl, hz2, r0⟩))
                all_goals
                  obtain ⟨⟨g9, hd9, t9, hv⟩, kz⟩ := hz2.out
                  have QS := Lib.hid (Sh.slots_ok hv)
                  have HN : Hid (wv + sl = slAll (slC ws l) (cs.take (j + 1)) ∧ Kept [] y8 z2) := Lib.hid ⟨HSn2.out.symm, KR.out.trans kz⟩
                  clear hz2 hv kz r0 c0 c1 QA QT QO HSn2 KR
                  go_wp2_with fail
                  refine QS.out.mono ?_
                  rintro e y ⟨rfl, rfl⟩
                  go_wp2_with fail
                  go_roundw
                  case rel => exact ⟨wv + sl, j + 1, rfl, by go_num, by omega, by omega, by omega, HN⟩
                  case measure => simp [intOf] <;> omega
              · rw [if_neg ht, Int.add_zero] at hsn
                generalize cs.getD j Cel.zero = x at *
                obtain ⟨xa, ⟨xt, xy, xl, xz⟩⟩ := x
                simp only at c0 c1 c2 c3 c4 ht
                have hne : (xt == 1) = false := by simpa using ht
                have HN : Hid (wv = slAll (slC ws l) (cs.take (j + 1)) ∧ Kept [] y8 wr) := Lib.hid ⟨hsn.symm, kr⟩
                clear hsn hx heq kr ht
                go_wp2_with fail
                go_roundw
                case rel => exact ⟨wv, j + 1, rfl, by go_num, by omega, by omega, by omega, HN⟩
                case measure => simp [intOf] <;> omega
            · obtain rfl : j = cs.length := by omega
              rw [List.take_length, ← HAv.out] at heq
              subst heq
              have KF := Lib.hid (HK1.out.trans (K8.out.trans kr))
              have QA := Lib.hid (HA1.out wr (K8.out.trans kr))
              clear kr
              go_wp2_with fail
              refine QA.out.mono ?_
              rintro e z4 ⟨rfl, k4⟩
              have K4 := Lib.hid (KF.out.trans k4)
              clear k4
              go_wp2_with fail
              go_ret
              exact ⟨rfl, K4.out⟩
end
end Go.Proofs.YtdfnphgjjodfoaaGreatDoor.Fd
