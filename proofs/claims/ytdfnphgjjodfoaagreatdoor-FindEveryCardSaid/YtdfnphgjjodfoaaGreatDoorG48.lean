/-
  Several texts in one: SpJoins, FdNil.
-/
import Derived.Test.YtdfnphgjjodfoaaGreatDoorG39
import Derived.Test.YtdfnphgjjodfoaaGreatDoorG03
import Derived.Test.YtdfnphgjjodfoaaGreatDoorG40
import Derived.Test.YtdfnphgjjodfoaaGreatDoorG33
import Derived.Test.YtdfnphgjjodfoaaGreatDoorG25
/-
  The contract of the law's joins: a reference is laid, of a space and of the document's.
-/
namespace Go.Proofs.YtdfnphgjjodfoaaGreatDoor.Sp
open Go.RowKit Go.Proofs.YtdfnphgjjodfoaaGreatDoor.Ar Go.Proofs.YtdfnphgjjodfoaaGreatDoor.Sh Go.Sort
open Go.Proofs.YtdfnphgjjodfoaaGreatDoor.Hd (Hd Fields cells4 free4 fitL)
open Go.Proofs.YtdfnphgjjodfoaaGreatDoor.Tb (Ty Tab cells3)
open Go.Proofs.YtdfnphgjjodfoaaGreatDoor.Kd (typV)
open Go.Proofs.YtdfnphgjjodfoaaGreatDoor.Wd (Table)
set_option linter.unusedVariables false
theorem and65535 (n : Int) : bits .and .i64 n 65535 = n % 65536 := Hd.and_mask n 65535 16 (by decide) (by decide) (by decide)
/-- Where objects begin. -/
def ats (cs : List Cel) : List Int := (objs cs).map (fun c => c.a)
theorem ats_length (cs : List Cel) : (ats cs).length ≤ cs.length := by unfold ats objs; rw [List.length_map]; exact List.length_filter_le _ _
theorem ats_snoc (cs : List Cel) (c : Cel) : ats (cs ++ [c]) = if c.h.tg = 1 then ats cs ++ [c.a] else ats cs := by
  unfold ats
  rw [objs_append]
  by_cases h : c.h.tg = 1
  · rw [if_pos h, objs_one h, List.map_append]; rfl
  · rw [if_neg h, objs_none (cs := [c]) (fun d hd => by rw [List.mem_singleton.1 hd]; exact h), List.append_nil]
theorem ats_get {cs : List Cel} {k : Nat} (h : k < (ats cs).length) : ∃ c ∈ cs, c.h.tg = 1 ∧ c.a = (ats cs).getD k 0 := by
  have hm : (ats cs).getD k 0 ∈ ats cs := by rw [List.getD_eq_getElem?_getD, List.getElem?_eq_getElem h]; exact List.getElem_mem h
  generalize (ats cs).getD k 0 = z at *
  unfold ats at hm
  obtain ⟨c, hc, e⟩ := List.mem_map.1 hm
  obtain ⟨h1, h2⟩ := objs_mem.1 hc
  exact ⟨c, h1, h2, e⟩
theorem pick_lt (n : Int) (L : Nat) (h : 0 < L) : ∃ (m : Int) (k : Nat), bits .and .i64 n 65535 = m ∧ k < L ∧ m.tmod (L : Int) = (k : Int) := by
  refine ⟨n % 65536, ?_⟩
  have h1 : 0 ≤ n % 65536 := Int.emod_nonneg _ (by decide)
  rw [Int.tmod_eq_emod_of_nonneg h1]
  have h2 := Int.emod_nonneg (n % 65536) (show (L : Int) ≠ 0 by omega)
  have h3 := Int.emod_lt_of_pos (n % 65536) (show (0 : Int) < L by omega)
  exact ⟨((n % 65536) % (L : Int)).toNat, and65535 n, by omega, by omega⟩
theorem addrR_range (g : Int) (h0 : 0 ≤ g) (h1 : g ≤ 32768) : 0 ≤ addrR g ∧ addrR g < 18446744073709551616 := by
  unfold addrR
  split <;> omega
theorem refs_get {k : Nat} {wd : Int} {mk sl j : Nat} (h : j < (Kd.refsTo k wd mk sl).length) : ∃ n : Nat, (Kd.refsTo k wd mk sl).getD j 0 = (n : Int) ∧ n < sl := by
  refine refsTo_mem (k := k) (wd := wd) (mk := mk) ?_
  rw [List.getD_eq_getElem?_getD, List.getElem?_eq_getElem h]
  exact List.getElem_mem h
section
variable {w x : World} {s : Ids} {r : Nat} {B : Option Addr} {d : Nat} {l : List Ty}
set_option maxRecDepth 100000 in
set_option maxHeartbeats 16000000 in
theorem joins_ok (h : Twin w x s r B d l) (hT : Tb.Seen w B l) (sd sg si sn su : Int) (sA : Option Addr) (slen scap : Nat) (g0 : -9223372036854775808 ≤ sg) (g1 : sg ≤ 9223372036854775807) (i0 : -9223372036854775808 ≤ si) (i1 : si ≤ 9223372036854775807) (n0 : -9223372036854775808 ≤ sn) (n1 : sn ≤ 9223372036854775807) :
    Calls Tryz.prog 66 #[.pointer (some ⟨s.sp, 0, none⟩), .pointer (some ⟨r, 0, none⟩), .agg #[.int .i64 sd, .int .i64 sg, .int .i64 si, .int .i64 sn, .int .u64 su, .slice sA slen scap]] x fun e y => e = .returned (.bool true) ∧ Twin w y s r B d l := by
  obtain ⟨ws, bs, cs, h0⟩ := h
  have hf := fit_of h0.mine hT
  have hmost := hf.most
  have hsh := hf.short
  have hgr : 0 ≤ gran ws ∧ gran ws ≤ 32768 := by unfold gran; omega
  have HF := Lib.hid hf
  have HT := Lib.hid h0.mine.snd.tiled
  have hb0 := Has.new x 65 [.int .i64 sd, .int .i64 sg, .int .i64 si, .int .i64 sn, .int .u64 su, .slice sA slen scap]
  have hk : Kept [] x (x.alloc (.cells #[.int .i64 sd, .int .i64 sg, .int .i64 si, .int .i64 sn, .int .u64 su, .slice sA slen scap] 65)) := (Kept.refl [] x).alloc _
  have h1 := h0.keep0 hk
  clear h0 hk hf hT
  obtain ⟨x1, hx1⟩ : ∃ x1, x.alloc (.cells #[.int .i64 sd, .int .i64 sg, .int .i64 si, .int .i64 sn, .int .u64 su, .slice sA slen scap] 65) = x1 := ⟨_, rfl⟩
  have hb1 : Has x1 x.heap.size 65 [.int .i64 sd, .int .i64 sg, .int .i64 si, .int .i64 sn, .int .u64 su, .slice sA slen scap] := by rw [← hx1]; exact hb0
  rw [hx1] at h1
  have HB := Lib.hid hb1
  have H0 := Lib.hid h1
  obtain ⟨q, cap, hd, hq⟩ := h1.doc
  have HAl := Lib.hid (all_ok hd (HF.out.keep0 h1.mine.kept))
  clear hb0 hb1 h1 hd hq
  go_enter Tryz.func66, Tryz.ntmps66
  go_wp2_with fail
  clear hx1
  generalize x.heap.size = b5 at *
  refine HAl.out.mono ?_
  rintro e x2 ⟨v, rfl, hO, hV, k2⟩
  obtain ⟨Av, cv, rfl, _⟩ := back_own (Kept.refl [] _) hO
  have HSn := Lib.hid hO.seen
  have H2 := Lib.hid (H0.out.keep0 k2)
  have B2 := Lib.hid (HB.out.keep0 k2)
  have HI0 : Hid (Ir.Own x2 (.slice none 0 0) (ats (cs.take 0)) ∧ Sh.FreshV x2 (.slice none 0 0) ∧ Kept [] x2 x2) := Lib.hid ⟨Ir.Own.nil _, .inl rfl, Kept.refl _ _⟩
  clear hO hV k2 HAl H0 HB
  go_wp2_with fail
  go_loopw [7, 9] (fun v t wr => ∃ j : Nat, t = .int .i64 (j : Int) ∧ j ≤ cs.length ∧ Hid (Ir.Own wr v (ats (cs.take j)) ∧ Sh.FreshV x2 v ∧ Kept [] x2 wr)) (fun _ t _ => cs.length - (intOf t).toNat)
  case atStart => exact ⟨0, rfl, Nat.zero_le _, HI0⟩
  case round =>
    clear HI0
    obtain ⟨j, rfl, hj, hr⟩ := hrel
    by_cases hlt : j < cs.length
    · obtain ⟨g9, o9, rfl, hg9, c0, c1, c2, c3, c4⟩ := (HSn.out.keep0 hr.out.2.2).at j hlt _ rfl
      have htk := cel_take hlt
      have hsn := ats_snoc (cs.take j) (cs.getD j Cel.zero)
      rw [← htk] at hsn
      have hal : (ats (cs.take j)).length ≤ 32768 := by have h1 := ats_length (cs.take j); have h2 := List.length_take_le j cs; omega
      have hO := hr.out.1
      have hV := hr.out.2.1
      have hK := hr.out.2.2
      clear htk hr
      generalize cs.getD j Cel.zero = c at *
      obtain ⟨xa, ⟨xt, xy, xl, xz⟩⟩ := c
      simp only at *
      by_cases ht : xt = 1
      · rw [if_pos ht] at hsn
        have HSn1 := Lib.hid hsn
        have HO := Lib.hid (hO.keep0 ((Kept.refl [] wr).alloc (.cells #[.int .i64 xa] 3)))
        have HV := Lib.hid hV
        have HK := Lib.hid (hK.alloc (.cells #[.int .i64 xa] 3))
        have HSx : Hid (Ir.Seen (wr.alloc (.cells #[.int .i64 xa] 3)) (some ⟨wr.heap.size, 0, none⟩) [xa]) := Lib.hid (Ir.Row.seen (Has.new wr 3 [.int .i64 xa]))
        clear hsn hO hV hK
        generalize ats (cs.take j) = az at *
        subst ht
        go_wp2_with (at_builtin; (refine Ir.append_numbers rfl (.tmp 36) (.tmp 42) rfl u7 az rfl HO.out (some ⟨wr.heap.size, 0, none⟩) 1 1 [xa] rfl rfl (fun h => by cases h) HSx.out (by omega) ?_))
        intro v' w5 o5 g5 b5'
        have HN : Hid (Ir.Own w5 v' (ats (cs.take (j + 1))) ∧ Sh.FreshV x2 v' ∧ Kept [] x2 w5) := Lib.hid ⟨by rw [HSn1.out]; exact o5, own_fresh (v' := v') HK.out HV.out (by rw [World.size_alloc]; exact b5'), own_grown HK.out HV.out g5⟩
        clear o5 g5 b5' HO HV HK HSx HSn1 c0 c1 c2 c3 c4
        go_wp2_with fail
        go_roundw
        case rel => exact ⟨j + 1, by go_num, by omega, HN⟩
        case measure => simp [intOf] <;> omega
      · rw [if_neg ht] at hsn
        have hb : (xt == 1) = false := by simpa using ht
        have HN : Hid (Ir.Own wr u7 (ats (cs.take (j + 1))) ∧ Sh.FreshV x2 u7 ∧ Kept [] x2 wr) := Lib.hid ⟨by rw [hsn]; exact hO, hV, hK⟩
        clear hsn hO hV hK ht
        go_wp2_with fail
        go_roundw
        case rel => exact ⟨j + 1, by go_num, by omega, HN⟩
        case measure => simp [intOf] <;> omega
    · obtain rfl : j = cs.length := by omega
      have hO := hr.out.1
      rw [List.take_length] at hO
      have HK := Lib.hid hr.out.2.2
      have hgt := fun (k : Nat) (hk : k < (ats cs).length) => ats_get hk
      have HGt := Lib.hid hgt
      obtain ⟨az, has⟩ : ∃ az, az = ats cs := ⟨_, rfl⟩
      rw [← has] at hO HGt
      clear hr hgt has
      obtain ⟨A7, c7, hu7, hbk⟩ := Ir.back_own (Kept.refl [] _) hO
      subst hu7
      have HS7 := Lib.hid hbk.2.1
      clear hbk hO
      by_cases hz : az.length = 0
      · go_wp2_with fail
        go_ret
        exact ⟨rfl, ws, bs, cs, H2.out.keep0 HK.out⟩
      · have hpos : 0 < az.length := by omega
        obtain ⟨x3, hx3⟩ : ∃ x3, x3 = wr := ⟨_, rfl⟩
        subst hx3
        have H3 := Lib.hid (H2.out.keep0 HK.out)
        have B3 := Lib.hid (B2.out.keep0 HK.out)
        obtain ⟨q1, q2, q3⟩ : x3.cell? ⟨b5, 1, none⟩ = some (.int .i64 sg) ∧ x3.cell? ⟨b5, 2, none⟩ = some (.int .i64 si) ∧ x3.cell? ⟨b5, 3, none⟩ = some (.int .i64 sn) := ⟨B3.out.cell 1, B3.out.cell 2, B3.out.cell 3⟩
        obtain ⟨mg, kg, hmg, hkg, hkg2⟩ := pick_lt sg az.length hpos
        obtain ⟨mi, ki, hmi, hki, hki2⟩ := pick_lt si az.length hpos
        obtain ⟨ga, fa, rfl, ha⟩ := HS7.out.cells (by rintro rfl; exact absurd hpos (by simp))
        have a1 := ha kg hkg
        have a2 := ha ki hki
        obtain ⟨c, hc, hct, hca⟩ := HGt.out kg hkg
        obtain ⟨c2, hc2, hct2, hca2⟩ := HGt.out ki hki
        rw [← hca] at a1
        rw [← hca2] at a2
        have hb1 := HT.out.mem c hc
        have hb2 := HT.out.mem c2 hc2
        have hob := obj_of HT.out (Int.le_refl _) (Int.le_refl _) hc hct
        have hz1 := can_sz hb1.2.2.1
        have hz2 := can_sz hb2.2.2.1
        have hu := addrR_range c2.a hb2.1 (by omega)
        have HAd := Lib.hid (fun y => daddr_ok (w := y) c2.a (by omega))
        have hce : c.a ≤ 32768 ∧ 0 ≤ c.a := by omega
        have HC := Lib.hid (And.intro hc (And.intro hct hob))
        clear ha H2 B2 HSn HS7 hca hca2 hct hct2 hc hc2 hb1 hb2 hz1 hz2 HGt hob
        generalize addrR c2.a = ua at *
        generalize c2.a = ca2 at *
        obtain ⟨ca, hca⟩ : ∃ ca, ca = c.a := ⟨_, rfl⟩
        rw [← hca] at a1 hce
        have HCA := Lib.hid hca
        clear hca
        go_upto_if 58 with fail
        go_cut [11] (fun vv wx => ∃ u, vv = .int .u64 u ∧ 0 ≤ u ∧ u < 18446744073709551616 ∧ wx = x3)
        case first =>
          by_cases hsi : si ≥ 0
          · go_wp2_with fail
            refine (HAd.out _).mono ?_
            rintro e x4 ⟨rfl, rfl⟩
            go_wp2_with fail
            go_meet
            case rel => exact ⟨_, rfl, hu.1, hu.2, rfl⟩
          · go_wp2_with fail
            go_meet
            case rel => exact ⟨0, rfl, by decide, by decide, rfl⟩
        case rest =>
          obtain ⟨uu, rfl, hu0, hu1, rfl⟩ := hcut
          obtain ⟨x3, hx3⟩ : ∃ x3, x3 = wc := ⟨_, rfl⟩
          subst hx3
          clear HAd hu a2 hmi hki hki2 hmg hkg2 hkg a1
          obtain ⟨hc, hct, hE, hH⟩ := HC.out
          rw [← HCA.out] at hE hH
          have hdt : docT ws l ca = ofT ws l ca := by unfold docT; rw [if_pos hE]
          have hdh : docH ws l ca = hdH ws ca := by unfold docH; rw [if_pos hE]
          obtain ⟨gn, sl, F⟩ := facts_all HF.out.ok hE
          have hfs := facts_size HF.out.ok hE
          obtain ⟨q, cap, hd, hq⟩ := H3.out.doc
          obtain ⟨d0, d1, f0⟩ := hd.cells
          have HOf := Lib.hid (fun y (k : Kept [] x3 y) => sof_ok (hd.keep0 k) (HF.out.keep0 (H3.out.mine.kept.trans k)) ca)
          rw [hdt, hdh, hE] at HOf
          have HRf : Hid (∀ y, Calls Tryz.prog 107 #[typV (ofT ws l ca).k (ofT ws l ca).wd (ofT ws l ca).ms, .int .i64 (hdH ws ca).ln] y fun e z => ∃ v, e = .returned (.tuple #[v, .int .i64 0]) ∧ Ir.Own z v (Kd.refsTo (ofT ws l ca).k (ofT ws l ca).wd (ofT ws l ca).ms sl) ∧ Kept [] y z) := Lib.hid fun y => by
            refine (Kd.refsDoc_ok (ofT ws l ca).k (ofT ws l ca).wd (ofT ws l ca).ms (hdH ws ca).ln F.ms y).mono ?_
            rintro e z ⟨v, he, ho, hk⟩
            have hr : Kd.refsR (ofT ws l ca).k (ofT ws l ca).wd (ofT ws l ca).ms (hdH ws ca).ln = Kd.refsTo (ofT ws l ca).k (ofT ws l ca).wd (ofT ws l ca).ms sl := by
              unfold Kd.refsR
              rw [if_pos F.err, F.slots]
              rfl
            rw [F.err] at he
            rw [hr] at ho
            exact ⟨v, he, ho, hk⟩
          have HRg := Lib.hid (fun (j : Nat) (h : j < (Kd.refsTo (ofT ws l ca).k (ofT ws l ca).wd (ofT ws l ca).ms sl).length) => refs_get h)
          have hgn : ca = (gn : Int) := F.gEq
          have hsl : ofS ws l ca = (sl : Int) := F.slEq
          rw [hsl] at hfs
          have hSl := Lib.hid hsl
          have HVw : Hid (∀ y, Kept [] x3 y → Calls Tryz.prog 20 #[.pointer (some ⟨s.ap, 0, none⟩), .pointer (some ⟨s.tp, 0, none⟩), .int .i64 ca] y fun e z => ∃ v, e = .returned (.tuple #[.pointer (some ⟨v, 0, none⟩), .int .i64 0]) ∧ Sh.View z v s.ap ca (hdH ws ca) (ofT ws l ca) (ofS ws l ca) ∧ Kept [] y z) := Lib.hid fun y k => duo_view (H3.out.keep0 k) ca (by omega) (by omega) hE
          have HSt : Hid (∀ z v (n : Int), Kept [] x3 z → Sh.View z v s.ap ca (hdH ws ca) (ofT ws l ca) (ofS ws l ca) → 0 ≤ n → n < (sl : Int) → Calls Tryz.prog 63 #[.pointer (some ⟨v, 0, none⟩), .int .i64 n, .int .u64 uu] z fun e y => e = .returned (.int .i64 0) ∧ Duo w y s r B d l (ws.set (slotI ca n) uu) bs cs ws ∧ Kept (r :: s.turn) z y) := Lib.hid fun z v n k hv m0 m1 => by
            rw [HCA.out] at hv hSl ⊢
            exact duo_store (H3.out.keep0 k) hc hct hv n uu m0 (by rw [hSl.out]; exact m1) hu0 hu1
          obtain ⟨L, hLL⟩ : ∃ L, L = ws.length := ⟨_, rfl⟩
          obtain ⟨M, hM⟩ : ∃ M, M = l.length := ⟨_, rfl⟩
          have hrd := hd.head.lt
          rw [← hLL] at d0
          rw [← hM] at d1
          rw [← hLL, ← hM] at HOf
          have HCl : Hid (∀ z, Kept [] x3 z → z.cell? ⟨r, 0, none⟩ = some (.slice (some ⟨q, 0, none⟩) L cap) ∧ z.cell? ⟨r, 1, none⟩ = some (.slice B M d)) := Lib.hid fun z k => ⟨by rw [hLL]; exact (hd.keep0 k).cells.1, by rw [hM]; exact (hd.keep0 k).cells.2.1⟩
          have HLL := Lib.hid hLL
          rw [← hLL] at hfs
          have HGN := Lib.hid hgn
          clear hdt hdh hE hH hd hq F hc hct hLL hM hsl hgn
          generalize ofS ws l ca = sv at *
          generalize ofT ws l ca = tv at *
          generalize hdH ws ca = hv at *
          obtain ⟨tk, tw, tm⟩ := tv
          obtain ⟨vt, vy, vl, vz⟩ := hv
          unfold Hd.val Tb.Ty.val at HOf
          unfold typV at HRf
          simp only at HOf HRf HRg hfs
          have HO2 : Hid (∀ y, Kept [] x3 y → Calls Tryz.prog 104 #[.slice (some ⟨q, 0, none⟩) L cap, .slice B M d, .int .i64 ca] y fun e z => e = .returned (.tuple #[.agg #[.int .u8 vt, .int .i64 vy, .int .i64 vl, .int .i64 vz], .agg #[.int .u8 (tk : Int), .int .i64 tw, .int .u64 (tm : Int)], .int .i64 0]) ∧ Kept [] y z ∧ z.cell? ⟨r, 0, none⟩ = some (.slice (some ⟨q, 0, none⟩) L cap) ∧ z.cell? ⟨r, 1, none⟩ = some (.slice B M d)) := Lib.hid fun y k => (HOf.out y k).mono fun e z ⟨he, hk⟩ => ⟨he, hk, (HCl.out z (k.trans hk)).1, (HCl.out z (k.trans hk)).2⟩
          have hx0 : Kept [] x3 x3 := Kept.refl _ _
          have n1 : x3.heap.size ≠ r := by omega
          have n2 : x3.heap.size + 1 ≠ r := by omega
          clear HOf HCl hrd
          go_upto_region 14 with fail
          go_cut [12, 13] (fun a b wx => ∃ b1 b2, a = .pointer (some ⟨b1, 0, none⟩) ∧ b = .pointer (some ⟨b2, 0, none⟩) ∧ Hid (Two x3 wx b1 b2 [.int .u8 vt, .int .i64 vy, .int .i64 vl, .int .i64 vz] [.int .u8 (tk : Int), .int .i64 tw, .int .u64 (tm : Int)]))
          case first =>
            go_region_held3 (fun y => y.cell? ⟨r, 0, none⟩ = some (.slice (some ⟨q, 0, none⟩) L cap) ∧ y.cell? ⟨r, 1, none⟩ = some (.slice B M d)) (go_keep)
              (first | (go_at_call 104; refine (HO2.out _ (by first | exact hx0.drew | exact (hx0.alloc _).drew | exact ((hx0.alloc _).alloc _).drew)).mono ?_; rintro e z1 ⟨rfl, hz1, r0, r1⟩; have n3 : z1.heap.size ≠ r := Nat.ne_of_gt (World.block_lt_of_cell? z1 _ r0); have n4 : z1.heap.size + 1 ≠ r := Nat.ne_of_gt (Nat.lt_succ_of_lt (World.block_lt_of_cell? z1 _ r0)); (first | (obtain ⟨hh, ht⟩ := box_ht hz1; obtain ⟨i0, i1, i2, i3⟩ := cells4 hh; obtain ⟨j0, j1, j2⟩ := cells3 ht; obtain ⟨fi0, fi1, fi2, fi3⟩ := free4 hh; obtain ⟨fj0, fj1, fj2⟩ := Tb.free3 ht; have kht := Lib.hid (And.intro hh (And.intro ht hz1)); clear hh ht hz1) | (obtain ⟨ht, hh⟩ := box_th hz1; obtain ⟨i0, i1, i2, i3⟩ := cells4 hh; obtain ⟨j0, j1, j2⟩ := cells3 ht; obtain ⟨fi0, fi1, fi2, fi3⟩ := free4 hh; obtain ⟨fj0, fj1, fj2⟩ := Tb.free3 ht; have kth := Lib.hid (And.intro hh (And.intro ht hz1)); clear hh ht hz1) | (obtain ⟨hh, hlt9⟩ := box_h hz1; obtain ⟨i0, i1, i2, i3⟩ := cells4 hh; obtain ⟨fi0, fi1, fi2, fi3⟩ := free4 hh; have kh := Lib.hid (And.intro hh hz1); clear hh hz1) | (obtain ⟨ht, hlt9⟩ := box_t hz1; obtain ⟨j0, j1, j2⟩ := cells3 ht; obtain ⟨fj0, fj1, fj2⟩ := Tb.free3 ht; have kt := Lib.hid (And.intro ht hz1); clear ht hz1) | (have k0 := Lib.hid hz1; clear hz1))))
            all_goals
              clear r0 r1 n3 n4 
              go_wp2_with fail
              go_meet
              case rel =>
                first
                | with_reducible exact ⟨_, _, rfl, rfl, Lib.hid (two4 rfl rfl kht.out.1 kht.out.2.1 kht.out.2.2)⟩
                | with_reducible exact ⟨_, _, rfl, rfl, Lib.hid (two6 rfl rfl kth.out.1 kth.out.2.1 kth.out.2.2)⟩
                | with_reducible exact ⟨_, _, rfl, rfl, Lib.hid (two3 rfl kh.out.1 kh.out.2)⟩
                | with_reducible exact ⟨_, _, rfl, rfl, Lib.hid (two5 rfl kt.out.1 kt.out.2)⟩
                | with_reducible exact ⟨_, _, rfl, rfl, Lib.hid (two1 k0.out)⟩
                | with_reducible exact ⟨_, _, rfl, rfl, Lib.hid (two2 k0.out)⟩
          case rest =>
            obtain ⟨b1, b2, rfl, rfl, hcc⟩ := hcut
            obtain ⟨hb1, hb2, hk4⟩ := hcc.out
            obtain ⟨j0, j1, j2⟩ := cells3 hb2
            obtain ⟨i0, i1, i2, i3⟩ := cells4 hb1
            have HK4 := Lib.hid hk4
            clear hcc hb1 hb2 hk4 HO2 hx0 n1 n2 d0 d1 f0 q1 q2 q3
            go_wp2_with fail
            refine (HRf.out _).mono ?_
            rintro e x5 ⟨v5, rfl, hO5, k5⟩
            have hk35 := HK4.out.trans k5
            obtain ⟨A5, c5, rfl, hbk5⟩ := Ir.back_own (Kept.refl [] _) hO5
            have HS5 := Lib.hid hbk5.2.1
            have H5 := Lib.hid (H3.out.keep0 hk35)
            have HK5 := Lib.hid hk35
            have q3 : x5.cell? ⟨b5, 3, none⟩ = some (.int .i64 sn) := (B3.out.keep0 hk35).cell 3
            clear hO5 k5 hk35 hbk5 j0 j1 j2 i0 i1 i2 i3 HRf B3 HK4
            generalize Kd.refsTo tk tw tm sl = rs at *
            by_cases hz2 : rs.length = 0
            · go_wp2_with fail
              go_ret
              exact ⟨rfl, ws, bs, cs, H5.out⟩
            · have hpos2 : 0 < rs.length := by omega
              obtain ⟨mn, kn, hmn, hkn, hkn2⟩ := pick_lt sn rs.length hpos2
              obtain ⟨g5, f5, rfl, ha5⟩ := HS5.out.cells (by rintro rfl; exact absurd hpos2 (by simp))
              have a5 := ha5 kn hkn
              obtain ⟨nn, hnn, hnl⟩ := HRg.out kn hkn
              rw [hnn] at a5
              have CAr := Lib.hid (arena_ok H5.out.mine.spc)
              have CTb := Lib.hid (table_ok H5.out.mine.spc)
              have CV := Lib.hid (HVw.out x5 HK5.out)
              clear ha5 hnn HRg HVw HS5
              go_wp2_with fail
              refine CAr.out.mono ?_
              rintro e x6 ⟨rfl, rfl⟩
              go_wp2_with fail
              refine CTb.out.mono ?_
              rintro e x6 ⟨rfl, rfl⟩
              go_wp2_with fail
              refine CV.out.mono ?_
              rintro e z1 ⟨v, rfl, hvw, kz⟩
              have HSz := Lib.hid (HSt.out z1 v (nn : Int) (HK5.out.trans kz) hvw (by omega) (by omega))
              have hI : Hid (slotI ca (nn : Int) = 2 * gn + 1 + nn) := Lib.hid (by have := HGN.out; unfold slotI; omega)
              have hIl : 2 * gn + 1 + nn < L := by have := HGN.out; omega
              have hL : L ≤ 65536 := by rw [HLL.out]; exact hsh
              clear hvw kz CAr CTb CV HSt q3 a5 hmn hkn2 hkn hfs hSl HC HCA hce
              generalize slotI ca (nn : Int) = I at *
              obtain rfl := HGN.out
              go_wp2_with fail
              refine HSz.out.mono ?_
              rintro e z2 ⟨rfl, hD, kd⟩
              obtain ⟨q2, cap2, hd2, hq2⟩ := hD.doc
              obtain ⟨c0, c1, f0⟩ := hd2.cells
              rw [← HLL.out] at c0
              have hne : ws ≠ [] := by rintro rfl; have := HLL.out; simp at this; omega
              have HS := Lib.hid hd2.row.seen
              have HDd := Lib.hid hd2
              have HDu := Lib.hid hD
              have HQ2 := Lib.hid hq2
              have HNe := Lib.hid hne
              clear kd hD hd2 hq2 hne HSz H5 H3 hsh
              go_wp2_with (at_builtin; (refine append_words rfl (.const (.slice none 0 0)) (.tmp 127) rfl (.slice none 0 0) [] rfl (Ar.Own.nil _) (some ⟨q2, 0, none⟩) L cap2 ws rfl HLL.out.symm (fun h => by cases h) HS.out (show 0 + L ≤ 1073741824 by omega) ?_))
              intro v2 x5 hO2 hG2 hB2
              have hK2 : Kept [] z2 x5 := own_grown (Kept.refl [] z2) (.inl rfl) hG2
              have hF2 := own_fresh (Kept.refl [] z2) (.inl rfl) hB2
              obtain ⟨gb, cap3, rfl, hcap, hlay2⟩ := lay_of_own hO2 HNe.out
              have hgb : z2.heap.size ≤ gb := by
                rcases hF2 with h | ⟨b, h, hle⟩
                · cases h
                · injection h with h
                  rw [show gb = b from h]; exact hle
              rw [← HLL.out] at hcap ⊢
              have hD5 := HDd.out.keep0 hK2
              have hrq : r ≠ gb := by have := HDd.out.head.lt; omega
              have hD6 := hD5.head.beside ⟨gb, 2 * gn + 1 + nn, none⟩ hrq (.int .u64 uu)
              have hc := hlay2.cell (2 * gn + 1 + nn) (by rw [← HLL.out]; omega)
              have hfz := hlay2.free (2 * gn + 1 + nn)
              clear c0 c1 f0
              have c0 := hD6.cell 0
              have f0 := hD6.free 0
              have HFin : Hid (Duo w ((x5.setCell ⟨gb, 2 * gn + 1 + nn, none⟩ (.int .u64 uu)).setCell ⟨r, 0, none⟩ (.slice (some ⟨gb, 0, none⟩) L cap3)) s r B d l (ws.set I uu) bs cs (ws.set I uu)) := Lib.hid (by
                refine HDu.out.theirs HQ2.out ⟨gb, cap3, ⟨?_, ?_, ?_⟩, .inr hgb, ((hK2.none _).setCell _ _ (.inr hgb)).setCell _ _ (.inl (by simp))⟩
                · rw [List.length_set, ← HLL.out]
                  exact hD6.put 0 _
                · rw [hI.out]
                  obtain ⟨rest, hr⟩ := hlay2.put (2 * gn + 1 + nn) uu (by rw [← HLL.out]; omega)
                  exact ⟨rest, hr.beside _ (Ne.symm hrq) _⟩
                · rw [List.length_set, ← HLL.out]; exact hcap)
              have hi0 : (0 : Int) ≤ 2 * (gn : Int) + 1 + (nn : Int) := by omega
              have hi1 : 2 * (gn : Int) + 1 + (nn : Int) < (L : Int) := by omega
              have hi2 : (2 * (gn : Int) + 1 + (nn : Int)).toNat = 2 * gn + 1 + nn := by omega
              clear hO2 hG2 hB2 hK2 hF2 hlay2 hgb hD5 hD6 hcap HS HDd HDu HQ2
              go_wp2_with fail
              go_ret
              exact ⟨rfl, _, bs, cs, HFin.out⟩
end
end Go.Proofs.YtdfnphgjjodfoaaGreatDoor.Sp

/-
  Stage 11, find: no space has no cells.
-/
namespace Go.Proofs.YtdfnphgjjodfoaaGreatDoor.Fd
open Go.RowKit Go.Proofs.YtdfnphgjjodfoaaGreatDoor.Ar Go.Proofs.YtdfnphgjjodfoaaGreatDoor.Lk Go.Shelf Go.Sort Go.Proofs.YtdfnphgjjodfoaaGreatDoor.Sp
open Go.Proofs.YtdfnphgjjodfoaaGreatDoor.Hd (Hd Fields)
open Go.Proofs.YtdfnphgjjodfoaaGreatDoor.Tb (Ty Tab)
set_option linter.unusedVariables false
attribute [local go_sem] Oper.semAt_some

theorem narena_ok (w : World) : Calls Tryz.prog 21 #[.pointer none] w fun e z => e = .returned (.pointer none) ∧ w = z := by
  go_enter Tryz.func21, Tryz.ntmps21
  go_wp2_with fail
  go_ret
  exact ⟨rfl, rfl⟩
theorem ngranules_ok (w : World) : Calls Tryz.prog 54 #[.pointer none] w fun e z => e = .returned (.int .i64 0) ∧ w = z := by
  go_enter Tryz.func54, Tryz.ntmps54
  go_wp2_with fail
  refine (narena_ok w).mono ?_
  rintro e z ⟨rfl, rfl⟩
  go_wp2_with fail
  refine (Ar.len_nil w).mono ?_
  rintro e z ⟨rfl, rfl⟩
  go_wp2_with fail
  go_ret
  exact ⟨rfl, rfl⟩
set_option maxRecDepth 100000 in
set_option maxHeartbeats 4000000 in
theorem ncells1_in (n : Nat) (hn : 1 ≤ n) (bg bb y : Nat) (J Jx : List (El []) → World → Prop) (W : World) (hG : Has W bg 3 [.int .i64 0]) (hB : Has W bb 28 [.pointer none]) (h0 : J [] W) :
    CallsIn Fence.wide n Tryz.prog 77 #[.func (.yield y) #[] #[], .pointer (some ⟨bg, 0, none⟩), .pointer (some ⟨bb, 0, none⟩)] W fun e' W' => (∃ v, e' = .returned v) ∧
      ((∃ xs, vals xs = [] ∧ J xs W') ∨ (∃ pre, (∃ rest, ([] : List Cel) = vals pre ++ rest) ∧ Jx pre W')) := by
  have cg := hG.cell 0
  simp at cg
  have H0 := Lib.hid h0
  have HB := Lib.hid hB
  clear hG h0 hB
  refine callsIn_of_wp Tryz.func77 rfl trivial ?_ rfl
  simp only [Tryz.ntmps77, List.size_toArray, List.length_cons, List.length_nil, Nat.reduceAdd, Nat.reduceSub, Array.replicate_succ, Array.replicate_zero, List.push_toArray, List.append_toArray, List.nil_append, List.cons_append]
  gi_wp2_with (fail)
  clear cg
  gi_loopw [4] (fun t wr => t = .int .i64 0 ∧ wr = W) (fun _ _ => 0)
  case atStart => exact ⟨rfl, rfl⟩
  case round =>
    obtain ⟨rfl, rfl⟩ := hrel
    have cb := HB.out.cell 0
    simp at cb
    gi_wp2_with (fail)
    refine ⟨trivial, (callsIn_wide.2 (ngranules_ok _)).mono ?_⟩
    rintro e1 w1 ⟨rfl, rfl⟩
    gi_wp2_with (fail)
    go_end0
    exact ⟨⟨_, rfl⟩, .inl ⟨[], rfl, H0.out⟩⟩
theorem ncells_stops (n : Nat) (hn : 1 ≤ n) (bg bb b : Nat) (w : World) (hG : Has w bg 3 [.int .i64 0]) (hB : Has w bb 28 [.pointer none]) :
    SeqStopsK Fence.wide n Tryz.prog 77 #[.pointer (some ⟨bg, 0, none⟩), .pointer (some ⟨bb, 0, none⟩)] (encs (cs := [])) (Kpw b) (fun xs => vals xs = []) (fun pre => ∃ rest, ([] : List Cel) = vals pre ++ rest) 0 w :=
  fun y J Jx W hW hJ _ hY h0 => ncells1_in n hn bg bb y J Jx W (hG.keep0 (Kept.ofBelow hW [])) (hB.keep0 (Kept.ofBelow hW [])) h0
set_option maxRecDepth 100000 in
set_option maxHeartbeats 4000000 in
theorem nappend_ok (bg bb : Nat) (w : World) (hG : Has w bg 3 [.int .i64 0]) (hB : Has w bb 28 [.pointer none]) :
    Calls Tryz.prog 76 #[.slice none 0 0, .func (.func 77) #[] #[.pointer (some ⟨bg, 0, none⟩), .pointer (some ⟨bb, 0, none⟩)]] w fun e w' => ∃ v, e = .returned v ∧ Sp.Own w' v [] ∧ Sp.FreshV w v ∧ Kept [] w w' := by
  have HG := Lib.hid hG
  have HB := Lib.hid hB
  clear hG hB
  refine (callsIn_wide (n := 5)).1 ?_
  refine callsIn_of_wp_marks Tryz.func76 rfl trivial ?_ rfl
  simp only [Tryz.ntmps76, List.size_toArray, List.length_cons, List.length_nil, Nat.reduceAdd, Nat.reduceSub, Array.replicate_succ, Array.replicate_zero, List.push_toArray, List.append_toArray, List.nil_append, List.cons_append]
  gi_wp2_with (fail)
  have hk2 : Kept [] w (w.alloc (.cells #[.slice none 0 0] 32)) := (Kept.refl [] w).alloc _
  have h3 := Has.new w 32 [.slice none 0 0]
  obtain ⟨w2, hw2⟩ : ∃ w2, w.alloc (.cells #[.slice none 0 0] 32) = w2 := ⟨_, rfl⟩
  have hw2' : w.alloc (.cells [.slice none 0 0].toArray 32) = w2 := hw2
  rw [hw2] at hk2 ⊢
  rw [hw2'] at h3
  clear hw2 hw2'
  have H30 := Lib.hid h3
  have Hkw := Lib.hid hk2
  have Hlt0 := Lib.hid h3.lt
  clear h3 hk2
  refine wpIn_rangeFunc_ownH rfl (by decide) (gf := 77) (lb := #[.pointer (some ⟨bg, 0, none⟩), .pointer (some ⟨bb, 0, none⟩)]) rfl trivial (enters_of Tryz.func77 (by kernel_rfl) rfl)
    (ncells_stops 4 (by decide) bg bb w.heap.size w2 (HG.out.keep0 Hkw.out) (HB.out.keep0 Hkw.out))
    (fun h k => h.trans k) (fun W l o o' hl h hc _ => Kpw.put Hlt0.out W l o o' hl h hc) (Below.refl _ _) (fun _ => rfl)
    (fun pre W => (∃ v, Has W w.heap.size 32 [v] ∧ Sp.Own W v (vals pre) ∧ Sp.FreshV w v) ∧ Kept [] w W)
    (fun _ _ _ => False)
    (OwnFrom.and (fun pre X Y row hs hg hr => by
      obtain ⟨v, h1, h2, h3⟩ := hs
      exact ⟨v, own_has (β := Unit) (f := fun _ => [v]) () X Y row h1 hg hr, Sp.own_from () X Y row h2 hg hr, h3⟩) (own_kept Hkw.out.more))
    (fun _ _ _ _ _ hs _ _ => hs)
    ⟨⟨_, H30.out, Sp.Own.nil _, .inl rfl⟩, Hkw.out⟩
    (fun x a' W => True)
    (fun x a' _ X Y row hs hg hr => trivial)
    ?assign ?body ?done ?stop
  case assign =>
    rintro l pre x W K ⟨⟨v, hi3, hO, hV⟩, hk⟩ hK
    exact absurd x.2 (by simp)
  case body =>
    rintro l pre y a' W _ _ _ _ hlen
    exact absurd y.2 (by simp)
  case done =>
    rintro D xs W hD hx ⟨⟨v, hi3, hO, hV⟩, hk⟩ hK
    have c3 := hi3.cell 0
    simp at c3
    have HKd := Lib.hid hK
    have Hk := Lib.hid hk
    have HE : Hid (vals xs = []) := Lib.hid hx
    have HO := Lib.hid hO
    have HV := Lib.hid hV
    clear hK hk hi3 hx hO hV
    generalize vals xs = P at *
    gi_wp2_with (fail)
    refine ⟨by simp, .inl ⟨_, _, rfl, run_takeDeferred HKd.out, ?_⟩⟩
    exact ⟨_, results_tmp rfl _ _ _, ⟨v, rfl, by rw [← HE.out]; exact Sp.own_put HO.out D _ _ HKd.out rfl, HV.out, kept_put Hk.out D _ (Nat.le_trans Hkw.out.more hD)⟩⟩
  case stop =>
    rintro D c pre W _ _ h _
    exact h.elim
/-- All cells of no space: none. -/
theorem nilCells_ok (w : World) : Calls Tryz.prog 19 #[.pointer none] w fun e w' => ∃ v, e = .returned v ∧ Sp.Own w' v [] ∧ Sp.FreshV w v ∧ Kept [] w w' := by
  have H1 := Lib.hid (cells_ok none 0 w)
  go_enter Tryz.func19, Tryz.ntmps19
  go_wp2_with fail
  refine H1.out.mono ?_
  rintro e w1 ⟨rfl, hw1⟩
  have hk1 : Kept [] w w1 := by rw [hw1]; exact ((Kept.refl [] w).alloc _).alloc _
  have hb : Has w1 w.heap.size 28 [.pointer none] := by rw [hw1]; exact (Has.new w _ _).alloc _
  have hg : Has w1 (w.heap.size + 1) 3 [.int .i64 0] := by
    rw [hw1]
    have := Has.new (w.alloc (.cells #[.pointer none] 28)) 3 [.int .i64 0]
    rwa [World.size_alloc] at this
  have HK1 := Lib.hid hk1
  have H2 : Hid (Calls Tryz.prog 41 #[.func (.func 77) #[] #[.pointer (some ⟨w.heap.size + 1, 0, none⟩), .pointer (some ⟨w.heap.size, 0, none⟩)]] w1 fun e w' => ∃ v, e = .returned v ∧ Sp.Own w' v [] ∧ Sp.FreshV w1 v ∧ Kept [] w1 w') := Lib.hid (by
    have H := Lib.hid (nappend_ok (w.heap.size + 1) w.heap.size w1 hg hb)
    clear hg hb hk1 hw1 H1 HK1
    generalize w.heap.size + 1 = bg at *
    generalize w.heap.size = bb at *
    go_enter Tryz.func41, Tryz.ntmps41
    go_wp2_with fail
    refine H.out.mono ?_
    rintro e w1 ⟨v, rfl, hO, hV, hk⟩
    have HO := Lib.hid hO
    have HV := Lib.hid hV
    have HK := Lib.hid hk
    clear hO hV hk
    go_wp2_with fail
    go_ret
    exact ⟨v, rfl, HO.out, HV.out, HK.out⟩)
  clear hk1 hb hg hw1 H1
  go_wp2_with fail
  refine H2.out.mono ?_
  rintro e w2 ⟨v, rfl, hO, hV, hk⟩
  have HO := Lib.hid hO
  have HV : Hid (Sp.FreshV w v) := Lib.hid (hV.imp_right fun ⟨b, h1, h2⟩ => ⟨b, h1, Nat.le_trans HK1.out.more h2⟩)
  have HK := Lib.hid (HK1.out.trans hk)
  clear hO hV hk
  go_wp2_with fail
  go_ret
  exact ⟨v, rfl, HO.out, HV.out, HK.out⟩
end Go.Proofs.YtdfnphgjjodfoaaGreatDoor.Fd
