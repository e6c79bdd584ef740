/-
  Several texts in one: WkDocRefs, WkDocEdges.
-/
import Derived.Test.YtagmmbkgjomdlaaGreatDoorG41
import Derived.Test.YtagmmbkgjomdlaaGreatDoorG13
import Derived.Test.YtagmmbkgjomdlaaGreatDoorG34
import Derived.Test.YtagmmbkgjomdlaaGreatDoorG42
import Derived.Test.YtagmmbkgjomdlaaGreatDoorG44
import Derived.Test.YtagmmbkgjomdlaaGreatDoorG31
import Derived.Deep.RegionLaw
/-
  The document's refs: the slots of a cell's type that are references.
-/
namespace Go.Proofs.YtagmmbkgjomdlaaGreatDoor.Wk
open Go.RowKit Go.Proofs.YtagmmbkgjomdlaaGreatDoor.Ar
open Go.Proofs.YtagmmbkgjomdlaaGreatDoor.Sp (Cel cells5)
open Go.Proofs.YtagmmbkgjomdlaaGreatDoor.Tb (Ty getT hasT errT dget_ok cells3)
set_option linter.unusedVariables false

set_option maxRecDepth 100000 in
set_option maxHeartbeats 2000000 in
theorem drefs_ok {w : World} {B : Option Addr} {d : Nat} {l : List Ty} (hB : Tb.Seen w B l) (hlen : l.length ≤ 100000) (x : Cel) (h0 : 0 ≤ x.h.ty) (h1 : x.h.ty ≤ 1000000) (hm : (getT l x.h.ty).ms < 18446744073709551616) :
    Calls Tryz.prog 53 #[.slice B l.length d, x.val] w fun e w' => ∃ v, e = .returned v ∧ Ir.Own w' v (Kd.refsR (getT l x.h.ty).k (getT l x.h.ty).wd (getT l x.h.ty).ms x.h.ln) ∧ Kept [] w w' := by
  have HG := Lib.hid (fun y (k : Kept [] w y) => dget_ok (c := d) (hB.keep0 k) hlen x.h.ty (by omega) (by omega))
  have HR := Lib.hid (fun y => Kd.refsDoc_ok (getT l x.h.ty).k (getT l x.h.ty).wd (getT l x.h.ty).ms x.h.ln hm y)
  have hb := Has.new w 78 [.int .i64 x.a, .int .u8 x.h.tg, .int .i64 x.h.ty, .int .i64 x.h.ln, .int .i64 x.h.sz]
  have hk : Kept [] w (w.alloc (.cells #[.int .i64 x.a, .int .u8 x.h.tg, .int .i64 x.h.ty, .int .i64 x.h.ln, .int .i64 x.h.sz] 78)) := (Kept.refl [] w).alloc _
  have HG := Lib.hid (HG.out _ hk)
  have HX := Lib.hid hb
  have HK := Lib.hid hk
  clear hB hk hm
  unfold Cel.val
  obtain ⟨x0, x1, x2, x3, x4⟩ := cells5 hb
  clear hb
  generalize hasT l x.h.ty = ht at *
  generalize getT l x.h.ty = t at *
  obtain ⟨tk, tw, tm⟩ := t
  unfold Kd.RefsPost Kd.typV at HR
  unfold Tb.Ty.val at HG
  obtain ⟨xa, ⟨xt, xy, xl, xz⟩⟩ := x
  simp only at *
  go_enter Tryz.func53, Tryz.ntmps53
  go_wp2_with fail
  refine HG.out.mono ?_
  rintro e w1 ⟨rfl, k1⟩
  have hX1 := HX.out.keep0 k1
  have hka : Kept [] w1 (w1.alloc (.cells #[.int .u8 (tk : Int), .int .i64 tw, .int .u64 (tm : Int)] 84)) := (Kept.refl [] w1).alloc _
  have hT := Has.new w1 84 [.int .u8 (tk : Int), .int .i64 tw, .int .u64 (tm : Int)]
  have hX2 := hX1.keep0 hka
  clear x0 x1 x2 x3 x4
  obtain ⟨x0, x1, x2, x3, x4⟩ := cells5 hX2
  obtain ⟨t0, t1, t2⟩ := cells3 hT
  have HK1 := Lib.hid ((HK.out.trans k1).trans hka)
  clear k1 hX1 hX2 hka hT HG HK HX
  go_wp2_with fail
  refine (HR.out _).mono ?_
  rintro e w2 ⟨v, rfl, hO, k2⟩
  have HO := Lib.hid hO
  have HK2 := Lib.hid (HK1.out.trans k2)
  clear hO k2 HR HK1 x0 x1 x2 x3 x4 t0 t1 t2
  go_wp2_with fail
  go_ret
  exact ⟨v, rfl, HO.out, HK2.out⟩
end Go.Proofs.YtagmmbkgjomdlaaGreatDoor.Wk

/-
  The document's Edges, of words that cells fill.
-/
namespace Go.Proofs.YtagmmbkgjomdlaaGreatDoor.Wk
open Go.RowKit Go.Proofs.YtagmmbkgjomdlaaGreatDoor.Ar
open Go.Proofs.YtagmmbkgjomdlaaGreatDoor.Sp hiding Own own_from own_put back_own Seen own_cells seen_one
open Go.Proofs.YtagmmbkgjomdlaaGreatDoor.Sh (Wds hdH ofT ofS ofE)
open Go.Proofs.YtagmmbkgjomdlaaGreatDoor.Hd (Hd)
open Go.Proofs.YtagmmbkgjomdlaaGreatDoor.Tb (Ty getT)
set_option linter.unusedVariables false

theorem rfs_part (ws : List Int) (l : List Ty) (cs : List Cel) (i : Nat) : rfs ws l (objs cs) = rfs ws l (objs (cs.take i)) ++ rfs ws l (objs (cs.drop i)) := by
  conv => lhs; rw [← List.take_append_drop i cs, objs_append]
  unfold rfs
  rw [List.flatMap_append]
theorem edg_row_ne {X : World} {v : Value} {rs : List Tri} {A : Option Addr} {n c : Nat} {L : List Int} (hO : Own Edg X v rs) (hR : Ir.Own X (.slice A n c) L) : (Value.slice A n c).ownBlock = none ∨ (Value.slice A n c).ownBlock ≠ v.ownBlock := by
  rcases hR.form with ⟨e, _⟩ | ⟨g', cap', e, _, _, _⟩
  · rw [e]; exact .inl rfl
  · right
    rw [e] at hR ⊢
    intro e2
    obtain ⟨cs, hcs⟩ := own_cells (K := Edg) hO g' (by rw [← e2]; simp [Value.ownBlock])
    exact Ir.Own.block_type hR hcs (by decide) rfl
/-- What the inner loop carries. -/
def EdI (w1 wi : World) (b9 : Nat) (x : Cel) (R : Option Addr) (rc : Nat) (L : List Int) (v : Value) (es : List Tri) : Prop :=
  Has wi b9 78 [.int .i64 x.a, .int .u8 x.h.tg, .int .i64 x.h.ty, .int .i64 x.h.ln, .int .i64 x.h.sz] ∧ Ir.Own wi (.slice R L.length rc) L ∧ Own Edg wi v es ∧ Sp.FreshV w1 v ∧ Kept [] w1 wi
theorem EdI.keep0 {w1 wi wj : World} {b9 : Nat} {x : Cel} {R : Option Addr} {rc : Nat} {L : List Int} {v : Value} {es : List Tri} (h : EdI w1 wi b9 x R rc L v es) (k : Kept [] wi wj) : EdI w1 wj b9 x R rc L v es :=
  ⟨h.1.keep0 k, h.2.1.keep0 k, h.2.2.1.keep0 k, h.2.2.2.1, h.2.2.2.2.trans k⟩
theorem EdI.grown {w1 wi wj : World} {b9 : Nat} {x : Cel} {R : Option Addr} {rc : Nat} {L : List Int} {v v' : Value} {es es' : List Tri} (h : EdI w1 wi b9 x R rc L v es) (hg : wi.grownBy wj v.ownBlock) (ho : Own Edg wj v' es') (hb : v'.ownBlock = v.ownBlock ∨ v'.ownBlock = some wi.heap.size) : EdI w1 wj b9 x R rc L v' es' := by
  obtain ⟨h1, h2, h3, h4, h5⟩ := h
  have hne : b9 ∉ v.ownBlock.toList := fun hm => by
    obtain ⟨cs, hcs⟩ := own_cells (K := Edg) h3 _ hm
    exact Has.block_type h1 hcs (by decide) rfl
  exact ⟨h1.kept (Sp.kept_grown hg) hne, h2.keep hg (edg_row_ne h3 h2), ho, own_fresh (v' := v') h5 h4 hb, own_grown h5 h4 hg⟩
theorem can_ty {h : Hd} (c : h.can) : 0 ≤ h.ty ∧ h.ty ≤ 1000000 := by
  rcases c.2 with ⟨_, h1, h2⟩ | ⟨_, h1, _⟩
  · omega
  · omega

set_option maxRecDepth 100000 in
set_option maxHeartbeats 8000000 in
theorem dedges_ok {w : World} {A B : Option Addr} {c d : Nat} {ws : List Int} {l : List Ty} (hS : Ar.Seen w A ws) (hl : ws.length ≤ 65536) (hW : Wds ws) (hL : Tb.Seen w B l) (hok : ∀ x ∈ l, x.ok ∧ x.fit) (hlen : l.length ≤ 64) (cs : List Cel) (hT : Tiled ws l 0 cs (gran ws)) :
    Calls Tryz.prog 19 #[.slice A ws.length c, .slice B l.length d] w fun e w' => ∃ v, e = .returned v ∧ Own Edg w' v (edgF (objs cs) (rfs ws l (objs cs))) ∧ Sp.FreshV w v ∧ Kept [] w w' := by
  have hC : Scans ws l 0 cs := hT.scans (Int.le_refl _)
  have hgr : 0 ≤ gran ws ∧ gran ws ≤ 32768 := by unfold gran; omega
  have hcl : cs.length ≤ 32768 := by
    rcases hC.length (Int.le_refl _) with h | h
    · have : gran ws = (ws.length : Int) / 2 := rfl
      omega
    · subst h; simp
  have HCe := Lib.hid (ecells_ok (c := c) (d := d) hS hl hW hL hok (by omega) cs hT)
  have HRf := Lib.hid (fun y (k : Kept [] w y) (x : Cel) (h0 : 0 ≤ x.h.ty) (h1 : x.h.ty ≤ 1000000) => drefs_ok (d := d) (hL.keep0 k) (show l.length ≤ 100000 by omega) x h0 h1 (Tb.getT_ok hok x.h.ty).2)
  have HSc := Lib.hid (scans_cell hC hgr.2)
  have HLt := Lib.hid (objs_lt hC hgr.2)
  have HSl := Lib.hid (fun (x : Cel) (hx : x ∈ objs cs) => refs_slR hok hC hx)
  have HOf := Lib.hid (scans_obj hC)
  have HFew := Lib.hid (rfs_few hC hgr.2)
  have HFc := Lib.hid (fun (g : Int) (h : ofE ws l g = 0) => facts_all hok h)
  have HA := Lib.hid hS
  have HWd := Lib.hid hW
  clear hS hW hL hok hT hC
  go_enter Tryz.func19, Tryz.ntmps19
  go_wp2_with fail
  refine HCe.out.mono ?_
  rintro e w1 ⟨vc, rfl, hO, hV, k1⟩
  obtain ⟨Ac, cc, rfl, _⟩ := Sp.back_own (Kept.refl [] _) hO
  have HCs := Lib.hid hO.seen
  have HK1 := Lib.hid k1
  have H0 : Hid (Own Edg w1 (.slice none 0 0) (edgF (objs cs) (rfs ws l (objs (cs.take 0)))) ∧ Sp.FreshV w1 (.slice none 0 0) ∧ Kept [] w1 w1) := Lib.hid ⟨Own.nil _, .inl rfl, Kept.refl _ _⟩
  clear hO hV k1 HCe
  go_wp2_with fail
  go_loopw [7, 8] (fun v t wr => ∃ j : Nat, t = .int .i64 (j : Int) ∧ j ≤ cs.length ∧ Hid (Own Edg wr v (edgF (objs cs) (rfs ws l (objs (cs.take j)))) ∧ Sp.FreshV w1 v ∧ Kept [] w1 wr)) (fun _ t _ => cs.length - (intOf t).toNat)
  case atStart => exact ⟨0, rfl, Nat.zero_le _, H0⟩
  case round =>
    obtain ⟨j, rfl, hj, hr⟩ := hrel
    clear H0
    generalize u7 = v at *
    have HO := Lib.hid hr.out.1
    have HV := Lib.hid hr.out.2.1
    have HK := Lib.hid hr.out.2.2
    clear hr
    by_cases hlt : j < cs.length
    · obtain ⟨gb, o, rfl, hg, a0, a1, a2, a3, a4⟩ := (HCs.out.keep0 HK.out).at j hlt _ rfl
      have hmem := cel_mem hlt
      have htk := cel_take hlt
      have hpart := rfs_part ws l cs (j + 1)
      have hos : objs (cs.take (j + 1)) = objs (cs.take j) ++ objs [cs.getD j Cel.zero] := by rw [htk, objs_append]
      have hfew0 := HFew.out
      generalize cs.getD j Cel.zero = x at *
      obtain ⟨hx1, hx2, hx3, hcan⟩ := HSc.out x hmem
      obtain ⟨ty0, ty1⟩ := can_ty hcan
      have HRx := Lib.hid (fun y (k : Kept [] w y) => HRf.out y k x ty0 ty1)
      have HIs : Hid (x.h.tg = 1 → Kd.refsR (getT l x.h.ty).k (getT l x.h.ty).wd (getT l x.h.ty).ms x.h.ln = slR ws l x.a ∧ (∃ gn sl, Sh.Facts ws l x.a gn sl) ∧ ofE ws l x.a = 0) := Lib.hid fun ht => ⟨HSl.out x (objs_mem.2 ⟨hmem, ht⟩), HFc.out _ (HOf.out x (objs_mem.2 ⟨hmem, ht⟩)), HOf.out x (objs_mem.2 ⟨hmem, ht⟩)⟩
      have HOs := Lib.hid hos
      have HPart := Lib.hid hpart
      clear hmem htk hcan hos hpart
      generalize Kd.refsR (getT l x.h.ty).k (getT l x.h.ty).wd (getT l x.h.ty).ms x.h.ln = L at *
      obtain ⟨xa, ⟨xt, xy, xl, xz⟩⟩ := x
      unfold Cel.val at HRx
      simp only at a0 a1 a2 a3 a4 hx1 hx2 hx3 HRx HIs
      have hB := Has.new wr 78 [.int .i64 xa, .int .u8 xt, .int .i64 xy, .int .i64 xl, .int .i64 xz]
      have hwr : Kept [] wr (wr.alloc (.cells #[.int .i64 xa, .int .u8 xt, .int .i64 xy, .int .i64 xl, .int .i64 xz] 78)) := (Kept.refl [] wr).alloc _
      obtain ⟨d0, d1, d2, d3, d4⟩ := cells5 hB
      have HB := Lib.hid hB
      have HWR := Lib.hid hwr
      have HRy := Lib.hid (HRx.out _ ((HK1.out.trans HK.out).trans hwr))
      clear hB hwr HRx
      go_wp2_with fail
      refine HRy.out.mono ?_
      rintro e w3 ⟨v3, rfl, hO3, k3⟩
      obtain ⟨R3, c3, rfl, _⟩ := Ir.back_own (Kept.refl [] _) hO3
      have HI0 : Hid (EdI w1 w3 wr.heap.size ⟨xa, ⟨xt, xy, xl, xz⟩⟩ R3 c3 L v (edgF (objs cs) (rfs ws l (objs (cs.take j)) ++ (oneR ws l xa).take 0))) := Lib.hid ⟨HB.out.keep0 k3, hO3, by rw [List.take_zero, List.append_nil]; exact HO.out.keep0 (HWR.out.trans k3), HV.out, HK.out.trans (HWR.out.trans k3)⟩
      clear hO3 k3 a0 a1 a2 a3 a4 d0 d1 d2 d3 d4 HB HWR HRy HO HV HK
      generalize wr.heap.size = b9 at *
      by_cases ht : xt = 1
      · obtain ⟨hLe, ⟨gn, sl, hF⟩, hE⟩ := HIs.out ht
        have hrm : ∀ r ∈ slR ws l xa, 0 ≤ r ∧ r < (sl : Int) := fun r hr => slR_mem ⟨hE, hF⟩ hr
        have hgE := hF.gEq
        have hroom := hF.room
        subst hLe
        have HFin : Hid (rfs ws l (objs (cs.take (j + 1))) = rfs ws l (objs (cs.take j)) ++ oneR ws l xa) := Lib.hid (by rw [HOs.out, objs_one (by exact ht), rfs_snoc])
        have hfw : (rfs ws l (objs (cs.take j))).length + (oneR ws l xa).length ≤ 65536 := by
          have h1 := congrArg List.length HPart.out
          rw [HFin.out, List.length_append, List.length_append] at h1
          omega
        have hone := one_len ws l xa
        have HTk := Lib.hid (fun k (h : k < (slR ws l xa).length) => one_take h)
        have HRm := Lib.hid hrm
        have HAl := Lib.hid (one_len ws l xa)
        clear HIs HOs HPart hE hF hrm hone
        generalize rfs ws l (objs (cs.take j)) = base at *
        subst hgE
        subst ht
        generalize slR ws l (gn : Int) = L1 at *
        have hL1 : L1.length ≤ 65536 := by have := HAl.out; omega
        go_wp2_with fail
        go_loopw [7, 11] (fun v t wi => ∃ k : Nat, t = .int .i64 (k : Int) ∧ k ≤ L1.length ∧ Hid (EdI w1 wi b9 ⟨(gn : Int), ⟨1, xy, xl, xz⟩⟩ R3 c3 L1 v (edgF (objs cs) (base ++ (oneR ws l (gn : Int)).take k)))) (fun _ t _ => L1.length - (intOf t).toNat)
        case atStart => exact ⟨0, rfl, Nat.zero_le _, HI0⟩
        case round =>
          clear HI0
          obtain ⟨k, rfl, hk, hi⟩ := hrel
          generalize u7 = v at *
          by_cases hkl : k < L1.length
          · have hst := HTk.out k hkl
            obtain ⟨n0, n1⟩ := HRm.out _ (num_mem hkl)
            obtain ⟨nn, hnn⟩ : ∃ nn : Nat, L1.getD k 0 = (nn : Int) := ⟨(L1.getD k 0).toNat, by omega⟩
            rw [hnn] at hst n1
            have HNn := Lib.hid hnn
            have hi2 : (2 * (gn : Int) + 1 + (nn : Int)).toNat = 2 * gn + 1 + nn := by omega
            rw [hi2] at hst
            have hnl : nn < sl := by omega
            have hi0 : (0 : Int) ≤ 2 * (gn : Int) + 1 + (nn : Int) := by omega
            have hi1 : 2 * (gn : Int) + 1 + (nn : Int) < (ws.length : Int) := by omega
            have hw1 : IntKind.i64.wrap (2 * (gn : Int)) = 2 * (gn : Int) := by rw [IntKind.wrap_i64]; omega
            have hw2 : IntKind.i64.wrap (2 * (gn : Int) + 1) = 2 * (gn : Int) + 1 := by rw [IntKind.wrap_i64]; omega
            have hw3 : IntKind.i64.wrap (2 * (gn : Int) + 1 + (nn : Int)) = 2 * (gn : Int) + 1 + (nn : Int) := by rw [IntKind.wrap_i64]; omega
            obtain ⟨g3, f3, rfl, ha3⟩ := (ir_seen hi.out.2.1).cells (by intro e; simp [e] at hkl)
            have r5 := ha3 k hkl
            rw [hnn] at r5
            obtain ⟨ga, fa, rfl, haw⟩ := HA.out.later (by intro e; simp [e] at hroom)
            have u5 := haw wr (HK1.out.trans hi.out.2.2.2.2) (2 * gn + 1 + nn) (by omega)
            obtain ⟨q0, q1⟩ := HWd.out (2 * gn + 1 + nn)
            obtain ⟨d0, d1, d2, d3, d4⟩ := cells5 hi.out.1
            have hfe : (edgF (objs cs) (base ++ (oneR ws l (gn : Int)).take k)).length + 1 ≤ 1073741824 := by
              have h1 := edgF_len (objs cs) (base ++ (oneR ws l (gn : Int)).take k)
              have h2 : ((oneR ws l (gn : Int)).take k).length ≤ (oneR ws l (gn : Int)).length := by rw [List.length_take]; omega
              rw [List.length_append] at h1
              omega
            have htl := tgt_leads HLt.out (ws.getD (2 * gn + 1 + nn) 0)
            have hes := edgF_snoc (objs cs) (base ++ (oneR ws l (gn : Int)).take k) ⟨(gn : Int), (nn : Int), ws.getD (2 * gn + 1 + nn) 0⟩
            rw [List.append_assoc, ← hst] at hes
            simp only at hes
            have HI := Lib.hid hi.out
            have HSe : Hid (∀ y, Kept [] wr y → Sp.Seen y (some ⟨gb, o, none⟩) cs) := Lib.hid fun y ky => HCs.out.keep0 (hi.out.2.2.2.2.trans ky)
            clear hi hst ha3 haw n0 hnn
            generalize ws.getD (2 * gn + 1 + nn) 0 = u at *
            have HTg := Lib.hid (fun d => (dtarget_ok (c := cc) (w := wr.drewN d) cs (HSe.out _ ((Kept.refl [] wr).drewN d)) hcl u q0 (by omega)).mono (fun e w' h => And.intro h.1 h.2.symm))
            generalize edgF (objs cs) (base ++ (oneR ws l (gn : Int)).take k) = es at *
            generalize tgt cs u = T at *
            generalize leads (objs cs) u = lb at *
            have HTl := Lib.hid htl
            have HEs := Lib.hid hes
            clear htl hes HSe
            go_wp2_with fail
            go_quiet (exact Calls.quiet_of_same (HTg.out _))
            clear HTg u5 r5 d0 d1 d2 d3 d4
            have hk2 : Kept [] wr (wr.drewN nq) := (Kept.refl [] wr).drewN nq
            generalize wr.drewN nq = W2 at *
            have HI2 := Lib.hid (HI.out.keep0 hk2)
            clear hk2 HI
            obtain ⟨d0, d1, d2, d3, d4⟩ := cells5 HI2.out.1
            obtain ⟨g4, f4, e4, ha3⟩ := (ir_seen HI2.out.2.1).cells (by intro e; simp [e] at hkl)
            injection e4 with e4
            injection e4 with e41 e42 e43
            subst e41 e42
            have r5 := ha3 k hkl
            rw [HNn.out] at r5
            clear ha3 e43
            rcases HTl.out with ⟨h1, h2, h3⟩ | ⟨h1, h2⟩
            · have hes := HEs.out
              rw [if_pos h1, ← h2] at hes
              have HE := Lib.hid hes
              clear HTl HEs h1 h2 hes
              go_wp2_with fail
              have HI3 := Lib.hid (HI2.out.keep0 ((Kept.refl [] W2).alloc (.cells #[.int .i64 (gn : Int), .int .i64 (nn : Int), .int .i64 T] 90)).drew)
              have H0 : Hid (Seen Edg ((W2.alloc (.cells #[.int .i64 (gn : Int), .int .i64 (nn : Int), .int .i64 T] 90)).drew) (some ⟨W2.heap.size, 0, none⟩) [(⟨(gn : Int), (nn : Int), T⟩ : Tri)]) := Lib.hid (seen_one (K := Edg) (Has.new W2 90 [.int .i64 (gn : Int), .int .i64 (nn : Int), .int .i64 T]).drew)
              clear HI2
              go_region_law ((refine step_append Edg (by rfl) (.tmp 60) (.tmp 69) (by rfl) v es (by rfl) HI3.out.2.2.1 (some ⟨W2.heap.size, 0, none⟩) 1 1 [(⟨(gn : Int), (nn : Int), T⟩ : Tri)] (by rfl) rfl (fun h => by cases h) H0.out hfe ?_; intro v' w4 o4 g4 b4; have hn : Hid (EdI w1 w4 b9 ⟨(gn : Int), ⟨1, xy, xl, xz⟩⟩ (some ⟨g3, f3, none⟩) c3 L1 v' (edgF (objs cs) (base ++ (oneR ws l (gn : Int)).take (k + 1)))) := Lib.hid (by rw [HE.out]; exact HI3.out.grown g4 o4 b4); clear o4 g4 b4))
              all_goals
                clear HI3 H0 HE r5 d0 d1 d2 d3 d4
                go_wp2_with fail
                go_roundw
                case rel => exact ⟨k + 1, by go_num, by omega, hn⟩
                case measure => simp [intOf] <;> omega
            · have hes := HEs.out
              rw [if_neg (by rw [h1]; decide)] at hes
              have HN : Hid (EdI w1 W2 b9 ⟨(gn : Int), ⟨1, xy, xl, xz⟩⟩ (some ⟨g3, f3, none⟩) c3 L1 v (edgF (objs cs) (base ++ (oneR ws l (gn : Int)).take (k + 1)))) := Lib.hid (by rw [hes]; exact HI2.out)
              subst h2
              clear HTl HEs h1 hes HI2 r5 d0 d1 d2 d3 d4
              go_wp2_with fail
              go_roundw
              case rel => exact ⟨k + 1, by go_num, by omega, HN⟩
              case measure => simp [intOf] <;> omega
          · obtain rfl : k = L1.length := by omega
            have HN : Hid (Own Edg wr v (edgF (objs cs) (rfs ws l (objs (cs.take (j + 1))))) ∧ Sp.FreshV w1 v ∧ Kept [] w1 wr) := Lib.hid (by
              have h := hi.out.2.2
              rw [← HAl.out, List.take_length, ← HFin.out] at h
              exact h)
            clear hi HTk HRm HAl HFin
            go_wp2_with fail
            go_roundw
            case rel => exact ⟨j + 1, by go_num, by omega, HN⟩
            case measure => simp [intOf] <;> omega
      · have hb : (xt == 1) = false := by simpa using ht
        have HI1 : Hid (EdI w1 w3 b9 ⟨xa, ⟨xt, xy, xl, xz⟩⟩ R3 c3 L v (edgF (objs cs) (rfs ws l (objs (cs.take (j + 1)))))) := Lib.hid (by
          have h := HI0.out
          rw [List.take_zero, List.append_nil] at h
          rw [HOs.out, show objs [(⟨xa, ⟨xt, xy, xl, xz⟩⟩ : Cel)] = [] by unfold objs; simp [ht], List.append_nil]
          exact h)
        clear HI0 HIs HOs HPart ht
        go_wp2_with fail
        go_loopw [7, 11] (fun v' t wi => v' = v ∧ t = .int .i64 0 ∧ Hid (EdI w1 wi b9 ⟨xa, ⟨xt, xy, xl, xz⟩⟩ R3 c3 L v (edgF (objs cs) (rfs ws l (objs (cs.take (j + 1))))))) (fun _ _ _ => 0)
        case atStart => exact ⟨rfl, rfl, HI1⟩
        case round =>
          clear HI1
          obtain ⟨rfl, rfl, hi⟩ := hrel
          obtain ⟨d0, d1, d2, d3, d4⟩ := cells5 hi.out.1
          have HN := Lib.hid hi.out.2.2
          clear hi
          by_cases h0 : 0 < L.length
          · go_wp2_with fail
            go_roundw
            case rel => exact ⟨j + 1, by go_num, by omega, HN⟩
            case measure => simp [intOf] <;> omega
          · go_wp2_with fail
            go_roundw
            case rel => exact ⟨j + 1, by go_num, by omega, HN⟩
            case measure => simp [intOf] <;> omega
    · obtain rfl : j = cs.length := by omega
      have ho := HO.out
      rw [List.take_length] at ho
      have HF : Hid (Own Edg wr v (edgF (objs cs) (rfs ws l (objs cs))) ∧ Sp.FreshV w v ∧ Kept [] w wr) := Lib.hid ⟨ho, HV.out.imp id fun ⟨b, hb, hl⟩ => ⟨b, hb, Nat.le_trans HK1.out.more hl⟩, HK1.out.trans HK.out⟩
      clear ho HO HV HK
      go_wp2_with fail
      go_ret
      exact ⟨v, rfl, HF.out⟩
end Go.Proofs.YtagmmbkgjomdlaaGreatDoor.Wk
