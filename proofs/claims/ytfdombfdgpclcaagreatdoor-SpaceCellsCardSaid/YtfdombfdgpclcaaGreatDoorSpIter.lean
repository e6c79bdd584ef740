/-
  The loop over a space's cells: the contract of the function that cells hands back.
-/
import Derived.Test.YtfdombfdgpclcaaGreatDoorSpCell
import Derived.Test.YtfdombfdgpclcaaGreatDoorGB
import Derived.Shelf.Abstract
import Derived.OwnWalkIn
import Derived.TacticsInMore
import Derived.LoopNIn
import Derived.LoopIn
namespace Go.Proofs.YtfdombfdgpclcaaGreatDoor.Sp
open Go.RowKit Go.Proofs.YtfdombfdgpclcaaGreatDoor.Ar Go.Proofs.YtfdombfdgpclcaaGreatDoor.Sh Go.Shelf Go.Sort
open Go.Proofs.YtfdombfdgpclcaaGreatDoor.Hd (Hd Fields)
open Go.Proofs.YtfdombfdgpclcaaGreatDoor.Tb (Ty Tab)
open Go.Proofs.YtfdombfdgpclcaaGreatDoor.Bt (Bv)
set_option linter.unusedVariables false
attribute [local go_sem] Oper.semAt_some

/-- The block of the slice that lies in the box b. -/
def ownAt (W : World) (b : Nat) : Option Nat := match W.cell? ⟨b, 0, none⟩ with | some v => v.ownBlock | none => none
theorem ownAt_of {W W' : World} {b : Nat} (h : W'.heap[b]? = W.heap[b]?) : ownAt W' b = ownAt W b := by
  unfold ownAt
  rw [World.cell?_of_block (w := W) h]
theorem ownAt_has {W : World} {b : Nat} {t : TypeId} {v : Value} (h : Has W b t [v]) : ownAt W b = v.ownBlock := by
  unfold ownAt
  rw [h.cell 0]
  rfl
/-- What a round that goes on keeps: all cells but the box b and the slice in it. -/
structure Kpw (b : Nat) (A B : World) : Prop where
  size : A.heap.size ≤ B.heap.size
  same : ∀ i o, i ≠ b → ownAt A b ≠ some i → A.heap[i]? = some o → o.isCells = true → B.heap[i]? = some o
  own : ownAt B b = ownAt A b ∨ ∃ g, ownAt B b = some g ∧ A.heap.size ≤ g ∧ g < B.heap.size
namespace Kpw
theorem refl (b : Nat) (W : World) : Kpw b W W := ⟨Nat.le_refl _, fun _ _ _ _ h _ => h, .inl rfl⟩
theorem trans {b : Nat} {A B C : World} (h : Kpw b A B) (k : Kpw b B C) : Kpw b A C := by
  refine ⟨Nat.le_trans h.size k.size, fun i o hi ha ho hc => ?_, ?_⟩
  · refine k.same i o hi (fun e => ?_) (h.same i o hi ha ho hc) hc
    rcases h.own with h1 | ⟨g, h1, h2, _⟩
    · rw [h1] at e; exact ha e
    · rw [h1] at e
      injection e with e
      have := (Array.getElem?_eq_some_iff.1 ho).1
      omega
  · rcases k.own with k1 | ⟨g, k1, k2, k3⟩
    · rw [k1]
      rcases h.own with h1 | ⟨g, h1, h2, h3⟩
      · exact .inl h1
      · exact .inr ⟨g, h1, h2, Nat.lt_of_lt_of_le h3 k.size⟩
    · exact .inr ⟨g, k1, Nat.le_trans h.size k2, k3⟩
theorem put {b n : Nat} (hb : b < n) (W : World) (l : Nat) (o o' : Obj) (hl : n ≤ l) (h : W.heap[l]? = some o) (hc : o.isCells = false) : Kpw b W (W.putObj l o') := by
  have hlt := (Array.getElem?_eq_some_iff.1 h).1
  refine ⟨(grownBy_putObj' W l o').size, fun i x hi _ hx hxc => ?_, .inl ?_⟩
  · have hne : i ≠ l := by rintro rfl; rw [h] at hx; injection hx with hx; rw [hx, hxc] at hc; cases hc
    exact ((grownBy_putObj' W l o').block i (Array.getElem?_eq_some_iff.1 hx).1 (fun e => hne (by injection e))).trans hx
  · exact ownAt_of ((grownBy_putObj' W l o').block b (by omega) (fun e => by injection e with e; omega))
theorem ofKept {b : Nat} {A B : World} (k : Kept [] A B) (hb : b < A.heap.size) : Kpw b A B :=
  ⟨k.more, fun i o _ _ ho _ => (k.old i (Array.getElem?_eq_some_iff.1 ho).1 (by simp)).trans ho, .inl (ownAt_of (k.old b hb (by simp)))⟩
theorem has {b : Nat} {A B : World} (h : Kpw b A B) {i : Nat} {t : TypeId} {cs : List Value} (hi : i ≠ b) (ho : ownAt A b ≠ some i) (hh : Has A i t cs) : Has B i t cs := h.same i _ hi ho hh rfl
end Kpw
theorem grownBy_of {A B : World} (k : Kept [] A B) : A.grownBy B none :=
  ⟨k.os, k.tape, k.out, k.more, fun i hi _ => k.old i hi (by simp)⟩
/-- A space is the same where its blocks are. -/
theorem Spc.moved {w w' : World} {s : Ids} {l : List Ty} {ws : List Int} {bs : List Bool} (h : Spc w s l ws bs) (k : ∀ i o, (∃ t cs, (t = 73 ∨ t = 93 ∨ t = 34 ∨ t = 58 ∨ t = 54 ∨ t = 114 ∨ t = 139) ∧ Has w i t cs) → w.heap[i]? = some o → w'.heap[i]? = some o) : Spc w' s l ws bs := by
  obtain ⟨m, a⟩ := h.ar
  obtain ⟨vs, bv, hM⟩ := h.bv
  refine ⟨k _ _ ⟨_, _, by simp, h.head⟩ h.head, ⟨m, k _ _ ⟨_, _, by simp, a.head⟩ a.head, k _ _ ⟨_, _, by simp, a.row⟩ a.row, a.short⟩, ⟨k _ _ ⟨_, _, by simp, h.tab.head⟩ h.tab.head, ⟨h.tab.own.1, ?_⟩, h.tab.nil, h.tab.len, h.tab.all⟩, ⟨vs, ⟨k _ _ ⟨_, _, by simp, bv.head⟩ bv.head, k _ _ ⟨_, _, by simp, bv.row⟩ bv.row, bv.len, bv.few, bv.word⟩, hM⟩, h.wm⟩
  rcases h.tab.own.2 with hn | ⟨g, cap, cur, e, hb, hg, rest⟩
  · exact .inl hn
  · refine .inr ⟨g, cap, cur, e, hb, ?_, rest⟩
    have hh : Has w g 54 cur.toList := by unfold Has; simpa using hg
    exact k _ _ ⟨_, _, by simp, hh⟩ hg
theorem Spc.kpw {w w' : World} {s : Ids} {l : List Ty} {ws : List Int} {bs : List Bool} {b : Nat} {tb : TypeId} {vb : Value} (h : Spc w s l ws bs) (hb : Has w b tb [vb]) (ht : tb ∉ [73, 93, 34, 58, 54, 114, 139]) (hn : ownAt w b = none) (k : Kpw b w w') : Spc w' s l ws bs := by
  refine h.moved fun i o ⟨t, cs, hi, hh⟩ ho => ?_
  refine k.same i o ?_ (by rw [hn]; simp) ho ?_
  · refine Has.block_type hh hb ?_
    rintro rfl
    exact ht (by simp; omega)
  · rw [hh] at ho
    injection ho with ho
    rw [← ho]
    rfl
theorem fields_kpw {w w' : World} {b : Nat} {tb : TypeId} {vb : Value} (h : Fields w) (hb : Has w b tb [vb]) (hn : ownAt w b = none) (k : Kpw b w w') : Fields w' := by
  obtain ⟨t, fr, hh⟩ := h
  refine ⟨t, fr, k.same _ _ ?_ (by rw [hn]; simp) hh rfl⟩
  rintro e
  rw [← e] at hb
  have e2 := hb.symm.trans hh
  injection e2 with e2
  injection e2 with e3
  have := congrArg Array.size e3
  simp [Hd.fieldCells] at this
abbrev El (cs : List Cel) := { c : Cel // c ∈ cs }
def encs {cs : List Cel} (x : El cs) : Array Value := #[.agg #[.int .i64 x.1.a, .int .u8 x.1.h.tg, .int .i64 x.1.h.ty, .int .i64 x.1.h.ln, .int .i64 x.1.h.sz]]
def vals {cs : List Cel} (xs : List (El cs)) : List Cel := xs.map (·.1)
theorem vals_snoc {cs : List Cel} (xs : List (El cs)) (x : El cs) : vals (xs ++ [x]) = vals xs ++ [x.1] := by simp [vals]

set_option maxRecDepth 100000 in
set_option maxHeartbeats 4000000 in
theorem cells1_in (n : Nat) (hn : 1 ≤ n) (b bg bb : Nat) (s : Ids) (l : List Ty) (ws : List Int) (bs : List Bool) (g : Int) (cs : List Cel) (y : Nat) (J Jx : List (El cs) → World → Prop) (W : World) (hJ : AbidesFrom W.heap.size J)
    (hY : ∀ pre x W1, J pre W1 → pre.length < cs.length → YieldAt Fence.wide (n - 1) Tryz.prog y (encs x) W1 fun e W' =>
      (e = .returned (.bool true) ∧ J (pre ++ [x]) W' ∧ Kpw b W1 W') ∨ (e = .returned (.bool false) ∧ Jx (pre ++ [x]) W'))
    (hG : Has W bg 3 [.int .i64 g]) (g0 : 0 ≤ g) (g1 : g ≤ 1000000) (hB : Has W bb 30 [.pointer (some ⟨s.sp, 0, none⟩)]) (hF : Fields W) (hS : Spc W s l ws bs) (hC : Scans ws l g cs)
    {tb : TypeId} {vb : Value} (hb : Has W b tb [vb]) (ht : tb ∉ [73, 93, 34, 58, 54, 114, 139]) (hti : tb ≠ 30) (hob : vb.ownBlock = none) (h0 : J [] W) :
    CallsIn Fence.wide n Tryz.prog 50 #[.func (.yield y) #[] #[], .pointer (some ⟨bg, 0, none⟩), .pointer (some ⟨bb, 0, none⟩)] W fun e' W' => (∃ v, e' = .returned v) ∧
      ((∃ xs, vals xs = cs ∧ J xs W') ∨ (∃ pre, (∃ rest, cs = vals pre ++ rest) ∧ Jx pre W')) := by
  have cg := hG.cell 0
  simp at cg
  have hown : ownAt W b = none := (ownAt_has hb).trans hob
  have hsh := hS.short
  have hgr : 0 ≤ gran ws ∧ gran ws ≤ 32768 := by unfold gran; omega
  have HSp : Hid (∀ X, Kpw b W X → Spc X s l ws bs) := Lib.hid fun X k => hS.kpw hb ht hown k
  have HFd : Hid (∀ X, Kpw b W X → Fields X) := Lib.hid fun X k => fields_kpw hF hb hown k
  have HBb : Hid (∀ X, Kpw b W X → Has X bb 30 [.pointer (some ⟨s.sp, 0, none⟩)]) := Lib.hid fun X k => k.has (Has.block_type hB hb (Ne.symm hti)) (by rw [hown]; simp) hB
  have Hlt := Lib.hid hb.lt
  have Hown := Lib.hid hown
  have H0 := Lib.hid h0
  have HY := Lib.hid hY
  have HJ := Lib.hid hJ
  have HC := Lib.hid hC
  clear hG h0 hY hJ hb hob hti ht hown hS hF hB hC
  refine callsIn_of_wp Tryz.func50 rfl trivial ?_ rfl
  simp only [Tryz.ntmps50, List.size_toArray, List.length_cons, List.length_nil, Nat.reduceAdd, Nat.reduceSub, Array.replicate_succ, Array.replicate_zero, List.push_toArray, List.append_toArray, List.nil_append, List.cons_append]
  gi_wp2_with (fail)
  clear cg
  gi_loopw [4] (fun t wr => ∃ a : Int, t = .int .i64 a ∧ 0 ≤ a ∧ a ≤ 1000000 ∧ Hid (∃ (pre : List (El cs)) (rest : List Cel), vals pre ++ rest = cs ∧ Scans ws l a rest ∧ J pre wr ∧ Kpw b W wr)) (fun t _ => (gran ws - intOf t).toNat)
  case atStart => exact ⟨g, rfl, g0, g1, Lib.hid ⟨[], cs, rfl, HC.out, H0.out, Kpw.refl _ _⟩⟩
  case round =>
    obtain ⟨a, rfl, a0, a1, hr⟩ := hrel
    obtain ⟨pre, rest, hpr, hsc, hJp, hkp⟩ := hr.out
    have HS1 := Lib.hid (HSp.out _ hkp)
    have cb := (HBb.out _ hkp).cell 0
    simp at cb
    have HGr := Lib.hid (granules_ok HS1.out)
    have HCl := Lib.hid (cell_ok (HFd.out _ hkp) HS1.out a a0 (by omega))
    have Hsc := Lib.hid hsc
    have Hpr := Lib.hid hpr
    have HJp := Lib.hid hJp
    have Hkp := Lib.hid hkp
    clear hr hpr hsc hJp hkp
    obtain ⟨G, hG⟩ : ∃ G, gran ws = G := ⟨_, rfl⟩
    rw [hG] at HGr hgr ⊢
    have HGe := Lib.hid hG
    clear hG
    by_cases hlt : a < G
    · gi_wp2_with (fail)
      refine ⟨trivial, (callsIn_wide.2 HGr.out).mono ?_⟩
      rintro e1 w1 ⟨rfl, rfl⟩
      clear HGr
      gi_wp2_with (fail)
      cases rest with
      | nil =>
        have hcb : cellB ws l a = false := Hsc.out
        unfold cellC at HCl
        rw [hcb, if_neg (by decide)] at HCl
        unfold Cel.val Cel.zero Hd.zero at HCl
        simp only at HCl
        refine ⟨trivial, (callsIn_wide.2 HCl.out).mono ?_⟩
        rintro e1 w1 ⟨rfl, hk1⟩
        have Hk1 := Lib.hid hk1
        clear hk1 HCl hcb Hsc
        gi_wp2_with (fail)
        refine ⟨(fun f h => by cases h), ?_⟩
        gi_wp2_with (fail)
        refine bodyPost_ret (results_none rfl _ _ _) rfl ?_
        refine ⟨⟨_, rfl⟩, .inl ⟨pre, by have := Hpr.out; rwa [List.append_nil] at this, HJ.out pre wr _ none HJp.out (grownBy_of (Hk1.out.alloc _)) (fun r e => by cases e)⟩⟩
      | cons c rest =>
        obtain ⟨hcb, hce, hsr⟩ := Hsc.out
        have hfa := cellB_facts hcb
        unfold cellC at HCl
        rw [hcb, if_pos rfl, ← hce] at HCl
        have hca : c.a = a := by rw [hce]
        have hsz : c.h.sz = (hdH ws a).sz := by rw [hce]
        have hmem : c ∈ cs := by rw [← Hpr.out]; simp
        have hlen : pre.length < cs.length := by
          have := congrArg List.length Hpr.out
          unfold vals at this
          simp at this
          omega
        have Hnext : Hid (vals (pre ++ [⟨c, hmem⟩]) ++ rest = cs) := Lib.hid (by rw [vals_snoc]; simpa using Hpr.out)
        have Hsr : Hid (Scans ws l (c.a + c.h.sz) rest) := Lib.hid (by rw [hca]; exact hsr)
        have hz1 : 1 ≤ c.h.sz := by omega
        have hz2 : c.a + c.h.sz ≤ G := by have := HGe.out; unfold gran at this; omega
        have HBh := Lib.hid (fun X => behind_ok c (by omega) (by omega) (by omega) (by omega) X)
        have Hyy := Lib.hid (fun X (hJX : J pre X) => HY.out pre ⟨c, hmem⟩ X hJX hlen)
        clear hcb hce hsr hfa hsz Hsc
        obtain ⟨ca, ⟨ct, cy, cl, cz⟩⟩ := c
        simp only at hca hz1 hz2 HBh HCl Hsr
        subst hca
        unfold Cel.val at HCl HBh
        simp only at HCl HBh
        refine ⟨trivial, (callsIn_wide.2 HCl.out).mono ?_⟩
        rintro e1 w1 ⟨rfl, hk1⟩
        have hb2 : Has (w1.alloc (.cells #[.int .i64 ca, .int .u8 ct, .int .i64 cy, .int .i64 cl, .int .i64 cz] 45)) w1.heap.size 45 [.int .i64 ca, .int .u8 ct, .int .i64 cy, .int .i64 cl, .int .i64 cz] := Has.new w1 _ _
        have hk2 : Kept [] wr (w1.alloc (.cells #[.int .i64 ca, .int .u8 ct, .int .i64 cy, .int .i64 cl, .int .i64 cz] 45)) := hk1.alloc _
        have hbw : wr.heap.size ≤ w1.heap.size := hk1.more
        clear hk1 HCl
        obtain ⟨d0, d1, d2, d3, d4⟩ := cells5 hb2
        have Hb2 := Lib.hid hb2
        have Hk2 := Lib.hid hk2
        clear hb2 hk2
        gi_wp2_with (fail)
        generalize w1.alloc (.cells #[.int .i64 ca, .int .u8 ct, .int .i64 cy, .int .i64 cl, .int .i64 cz] 45) = w2 at *
        generalize w1.heap.size = xb at *
        obtain ⟨fn, tmps, assign, body, hy, hR⟩ := Hyy.out w2 (HJ.out pre wr w2 none HJp.out (grownBy_of Hk2.out) (fun r e => by cases e))
        dsimp only [encs] at hy
        clear Hyy
        gi_wp2_with (fail)
        rw [hy, Oper.uponIn_round]
        refine ⟨fun _ => hn, hR.mono ?_⟩
        rintro e3 W3 (⟨rfl, hJ3, hkp3⟩ | ⟨rfl, hJx⟩)
        · have hxb : xb ≠ b := by
            rintro rfl
            have := Hlt.out
            have := Hkp.out.size
            omega
          have ho2 : ownAt w2 b ≠ some xb := by
            have hlb : b < wr.heap.size := Nat.lt_of_lt_of_le Hlt.out Hkp.out.size
            rw [ownAt_of (Hk2.out.old b hlb (by simp))]
            rcases Hkp.out.own with h1 | ⟨g', h1, _, h3⟩
            · rw [h1, Hown.out]; simp
            · rw [h1]
              intro e
              injection e with e
              omega
          have hb3 := hkp3.has hxb ho2 Hb2.out
          clear d0 d1 d2 d3 d4
          obtain ⟨d0, d1, d2, d3, d4⟩ := cells5 hb3
          have HN : Hid (∀ X, Kept [] W3 X → ∃ (pre : List (El cs)) (rest : List Cel), vals pre ++ rest = cs ∧ Scans ws l (ca + cz) rest ∧ J pre X ∧ Kpw b W X) :=
            Lib.hid fun X k => ⟨_, rest, Hnext.out, Hsr.out, HJ.out _ W3 X none hJ3 (grownBy_of k) (fun r e => by cases e), ((Hkp.out.trans (Kpw.ofKept Hk2.out (Nat.lt_of_lt_of_le Hlt.out Hkp.out.size))).trans hkp3).trans (Kpw.ofKept k (Nat.lt_of_lt_of_le Hlt.out (Nat.le_trans Hkp.out.size (Nat.le_trans Hk2.out.more hkp3.size))))⟩
          clear hJ3 hkp3 hy hR hxb ho2 hb3 HJp Hkp Hnext Hsr
          gi_wp2_with (fail)
          refine ⟨trivial, (callsIn_wide.2 (HBh.out _)).mono ?_⟩
          rintro e4 W4 ⟨rfl, hk4⟩
          have HN4 := Lib.hid (HN.out _ hk4)
          clear HN hk4 HBh
          gi_wp2_with (fail)
          go_roundw
          case rel => exact ⟨ca + cz, rfl, by omega, by omega, HN4⟩
          case measure => simp [intOf]; omega
        · have HE : Hid (cs = vals (pre ++ [⟨_, hmem⟩]) ++ rest) := Lib.hid Hnext.out.symm
          clear hy hR
          gi_wp2_with (fail)
          refine bodyPost_ret (results_none rfl _ _ _) rfl ?_
          exact ⟨⟨_, rfl⟩, .inr ⟨_, ⟨_, HE.out⟩, hJx⟩⟩
    · have hcb : cellB ws l a = false := cellB_out (by have := HGe.out; unfold gran at this; omega)
      have hnil : rest = [] := by
        cases rest with
        | nil => rfl
        | cons c rest => have := Hsc.out.1; rw [hcb] at this; cases this
      subst hnil
      clear hcb HCl
      gi_wp2_with (fail)
      refine ⟨trivial, (callsIn_wide.2 HGr.out).mono ?_⟩
      rintro e1 w1 ⟨rfl, rfl⟩
      clear HGr
      gi_wp2_with (fail)
      go_end0
      exact ⟨⟨_, rfl⟩, .inl ⟨pre, by have := Hpr.out; rwa [List.append_nil] at this, HJp.out⟩⟩

theorem cells_stops (n : Nat) (hn : 1 ≤ n) (b bg bb : Nat) (s : Ids) (l : List Ty) (ws : List Int) (bs : List Bool) (g : Int) (cs : List Cel) (w : World)
    (hG : Has w bg 3 [.int .i64 g]) (g0 : 0 ≤ g) (g1 : g ≤ 1000000) (hB : Has w bb 30 [.pointer (some ⟨s.sp, 0, none⟩)]) (hF : Fields w) (hS : Spc w s l ws bs) (hC : Scans ws l g cs)
    {tb : TypeId} {vb : Value} (hb : Has w b tb [vb]) (ht : tb ∉ [73, 93, 34, 58, 54, 114, 139]) (hti : tb ≠ 30) (hob : vb.ownBlock = none) :
    SeqStopsK Fence.wide n Tryz.prog 50 #[.pointer (some ⟨bg, 0, none⟩), .pointer (some ⟨bb, 0, none⟩)] (encs (cs := cs)) (Kpw b) (fun xs => vals xs = cs) (fun pre => ∃ rest, cs = vals pre ++ rest) cs.length w :=
  fun y J Jx W hW hJ _ hY h0 => cells1_in n hn b bg bb s l ws bs g cs y J Jx W hJ hY (hG.keep0 (Kept.ofBelow hW [])) g0 g1 (hB.keep0 (Kept.ofBelow hW [])) (hF.keep0 (Kept.ofBelow hW [])) (hS.keep0 (Kept.ofBelow hW [])) hC (hb.keep0 (Kept.ofBelow hW [])) ht hti hob h0
end Go.Proofs.YtfdombfdgpclcaaGreatDoor.Sp
