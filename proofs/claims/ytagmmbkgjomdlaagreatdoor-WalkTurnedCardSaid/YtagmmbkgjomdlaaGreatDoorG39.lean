/-
  Several texts in one: WkBegins, WkRefOps, WkRefFaults, RoundTail.
-/
import Derived.Test.YtagmmbkgjomdlaaGreatDoorG41
import Derived.Test.YtagmmbkgjomdlaaGreatDoorG14
import Derived.Maps.Own
import Derived.Maps.Views
import Derived.StillTailTactics
import Derived.Test.YtagmmbkgjomdlaaGreatDoorG38
import Derived.Maps.OwnIn
import Derived.Test.YtagmmbkgjomdlaaGreatDoorG03
import Derived.Test.YtagmmbkgjomdlaaGreatDoorG19
import Derived.Test.YtagmmbkgjomdlaaGreatDoorG01
/-
  The contract of beginnings: a map from the addresses of objects to their granules.
-/
namespace Go.Proofs.YtagmmbkgjomdlaaGreatDoor.Wk
open Go.RowKit Go.Proofs.YtagmmbkgjomdlaaGreatDoor.Ar Go.Maps
open Go.Proofs.YtagmmbkgjomdlaaGreatDoor.Sp
open Go.Proofs.YtagmmbkgjomdlaaGreatDoor.Sh (addrR addr_ok)
set_option linter.unusedVariables false

theorem lawK : Keyed Tryz.prog 32 := int_keyed Tryz.underlying32
theorem zeroE (w : World) : (zeroValue 3).run Tryz.prog w = .ok (.int .i64 0) w := by kernel_rfl
/-- A block that is a map of granules by addresses. -/
abbrev Mp (w : World) (b n : Nat) (D : DataW Unit) : Prop := w.ownsMap Tryz.prog 32 (plainElem Tryz.prog 3) b n D
def bStep (D : DataW Unit) (c : Cel) : DataW Unit := D.put (.int .u64 (addrR c.a)) (.lit (.int .i64 c.a))
def begD (os : List Cel) : DataW Unit := os.foldl bStep (.map [])
theorem begD_snoc (os : List Cel) (c : Cel) : begD (os ++ [c]) = bStep (begD os) c := by simp [begD]
theorem begD_map (os : List Cel) : IsMap (begD os) := by
  suffices h : ∀ (os : List Cel) (D : DataW Unit), IsMap D → IsMap (os.foldl bStep D) from h os _ isMap_empty
  intro os
  induction os with
  | nil => intro D h; exact h
  | cons c os ih => intro D h; exact ih _ (h.put _ _)
theorem snoc_ind {α : Type} {p : List α → Prop} (h0 : p []) (h1 : ∀ l x, p l → p (l ++ [x])) : ∀ l, p l := by
  intro l
  rw [← List.reverse_reverse l]
  induction l.reverse with
  | nil => exact h0
  | cons x l ih => rw [List.reverse_cons]; exact h1 _ _ ih
theorem addr_inj {a b : Int} (ha : 0 ≤ a) (hb : 0 ≤ b) : addrR a = addrR b ↔ a = b := by
  unfold addrR
  rw [if_neg (by omega), if_neg (by omega)]
  omega
theorem begD_has (os : List Cel) (x : Int) : has (begD os) (.int .u64 x) = os.any (fun c => decide (addrR c.a = x)) := by
  induction os using snoc_ind with
  | h0 => rfl
  | h1 l c ih =>
    rw [begD_snoc, List.any_append]
    unfold bStep
    by_cases h : addrR c.a = x
    · rw [h, has_put_same (begD_map l) (by simp [WideAt.IsKeyLit])]
      simp [h]
    · rw [has_put_other (by simpa using Ne.symm h), ih]
      simp [h]
theorem begD_at (os : List Cel) (h0 : ∀ c ∈ os, 0 ≤ c.a) (c : Cel) (hc : c ∈ os) (z : DataW Unit) : (begD os).atKey (.int .u64 (addrR c.a)) z = .lit (.int .i64 c.a) := by
  revert h0 hc
  induction os using snoc_ind with
  | h0 => intro _ hc; cases hc
  | h1 l d ih =>
    intro h0 hc
    rw [begD_snoc]
    unfold bStep
    by_cases h : c.a = d.a
    · rw [h, atKey_put_same (begD_map l) (by simp [WideAt.IsKeyLit])]
    · have hne : addrR c.a ≠ addrR d.a := fun e => h ((addr_inj (h0 c hc) (h0 d (by simp))).1 e)
      rw [atKey_put_other (by simpa using hne)]
      refine ih (fun e he => h0 e (by simp [he])) ?_
      rcases List.mem_append.1 hc with hc | hc
      · exact hc
      · rw [List.mem_singleton.1 hc] at h; exact absurd rfl h
theorem Mp.keep0 {w x : World} {b n : Nat} {D : DataW Unit} (h : Mp w b n D) (k : Kept [] w x) : Mp x b n D := by
  have hlt := h.lt
  obtain ⟨es, clock, hb, F, hs, hD⟩ := h
  exact ⟨es, clock, (k.old b hlt (by simp)).trans hb, F, hs, hD⟩
theorem run_makeMapN (n : Int) (w : World) : (Instr.makeMap 107 (some (.int .i64 n))).run Tryz.prog w = .ok (.map (some w.heap.size)) (w.alloc (.map #[] 0)) := by
  simp [Instr.makeMap, run_underlying Tryz.underlying107, asInt, asIntOf, Result.andThen]
set_option maxRecDepth 100000 in
set_option maxHeartbeats 4000000 in
theorem beginnings_ok {w : World} {A : Option Addr} {c : Nat} (os : List Cel) (hS : Sp.Seen w A os) (hlen : os.length ≤ 32768) (ha : ∀ c ∈ os, 0 ≤ c.a ∧ c.a ≤ 32768) :
    Calls Tryz.prog 50 #[.slice A os.length c] w fun e w' => ∃ b, e = .returned (.map (some b)) ∧ Mp w' b os.length (begD os) ∧ w.heap.size ≤ b ∧ Kept [] w w' := by
  have HS := Lib.hid hS
  have HA := Lib.hid ha
  have hmm := run_makeMapN
  have H0 : Hid (Mp (w.alloc (.map #[] 0)) w.heap.size 0 (begD (os.take 0)) ∧ Kept [] w (w.alloc (.map #[] 0))) := Lib.hid ⟨World.ownsMap_made _ _ _ _, (Kept.refl [] w).alloc _⟩
  clear hS ha
  go_enter Tryz.func50, Tryz.ntmps50
  go_wp2_with fail
  go_loopw [11] (fun t wr => ∃ j : Nat, t = .int .i64 (j : Int) ∧ j ≤ os.length ∧ Hid (Mp wr w.heap.size j (begD (os.take j)) ∧ Kept [] w wr)) (fun t _ => os.length - (intOf t).toNat)
  case atStart => exact ⟨0, rfl, Nat.zero_le _, H0⟩
  case round =>
    obtain ⟨j, rfl, hj, hr⟩ := hrel
    clear H0
    by_cases hlt : j < os.length
    · obtain ⟨g, o, rfl, hg, c0, c1, c2, c3, c4⟩ := (HS.out.keep0 hr.out.2).at j hlt _ rfl
      obtain ⟨a0, a1⟩ := HA.out _ (cel_mem hlt)
      have HD := Lib.hid (show begD (os.take (j + 1)) = bStep (begD (os.take j)) (os.getD j Cel.zero) by rw [cel_take hlt, begD_snoc])
      generalize os.getD j Cel.zero = x at *
      unfold bStep at HD
      obtain ⟨xa, ⟨xt, xy, xl, xz⟩⟩ := x
      simp only at *
      have hwr : Kept [] wr (wr.alloc (.cells #[.int .i64 xa, .int .u8 xt, .int .i64 xy, .int .i64 xl, .int .i64 xz] 78)) := (Kept.refl [] wr).alloc _
      have hB := Has.new wr 78 [.int .i64 xa, .int .u8 xt, .int .i64 xy, .int .i64 xl, .int .i64 xz]
      have HWR := Lib.hid hwr
      have HB := Lib.hid hB
      clear hB hwr
      go_wp2_with fail
      obtain ⟨d0, d1, d2, d3, d4⟩ := cells5 HB.out
      have HM := Lib.hid (Mp.keep0 hr.out.1 HWR.out)
      have K1 := Lib.hid (hr.out.2.trans HWR.out)
      clear hr c0 c1 c2 c3 c4
      generalize wr.alloc (.cells #[.int .i64 xa, .int .u8 xt, .int .i64 xy, .int .i64 xl, .int .i64 xz] 78) = w2 at *
      generalize wr.heap.size = b9 at *
      have hru : 0 ≤ addrR xa ∧ addrR xa ≤ 18446744073709551615 := by unfold addrR; rw [if_neg (by omega)]; omega
      have HAd := Lib.hid ((addr_ok (w := w2.drew) xa (by omega)).mono (R' := fun e w'' => e = .returned (.int .u64 (addrR xa)) ∧ w'' = w2.drew) fun e w'' h => ⟨h.1, h.2.symm⟩)
      refine wp_region_still_tail 6 (by kernel_rfl) (by kernel_rfl) ?_
      simp only [List.take_succ_cons, List.take_zero, List.drop_succ_cons, List.drop_zero]
      still_step
      still_step
      still_step
      still_call HAd.out
      still_step
      still_step
      refine wpStill_nil ?_
      change wpList _ _ _ _ _ w2.drew
      have hk3 : Kept [] w2 w2.drew := (Kept.refl [] w2).drew
      have HM3 := Lib.hid (Mp.keep0 HM.out hk3)
      have K3 := Lib.hid (K1.out.trans hk3)
      clear d0 d1 d2 d3 d4 HM K1 HAd hk3
      generalize w2.drew = w3 at *
      go_wp2_with (at_mapUpdate; refine wpList_mapUpdate_own _ rfl _ _ _ 107 rfl 32 3 lawK Tryz.underlying107 _ w.heap.size j _ rfl HM3.out (by unfold maxLen; omega) _ _ (.int .u64 (addrR xa)) rfl rfl (keyOf_int_mk Tryz.underlying32 (WalkArith.wf_u64 hru)) _ [] (plainElem_int Tryz.underlying3 (WalkArith.wf_i64 (by omega))) ?_)
      intro w4 hm4 hg4
      have HN : Hid (Mp w4 w.heap.size (j + 1) (begD (os.take (j + 1))) ∧ Kept [] w w4) := Lib.hid ⟨by rw [HD.out]; exact hm4, K3.out.forget (Sp.kept_grown (v := .slice (some ⟨w.heap.size, 0, none⟩) 0 0) hg4) (by simp [Value.ownBlock])⟩
      clear hm4 hg4 HM3 K3 HD
      go_wp2_with fail
      go_roundw
      case rel => exact ⟨j + 1, by go_num, by omega, HN⟩
      case measure => simp [intOf] <;> omega
    · obtain rfl : j = os.length := by omega
      have hm := hr.out.1
      rw [List.take_length] at hm
      have HM := Lib.hid hm
      have HK := Lib.hid hr.out.2
      clear hm hr
      go_wp2_with fail
      go_ret
      exact ⟨_, rfl, HM.out, Nat.le_refl _, HK.out⟩
end Go.Proofs.YtagmmbkgjomdlaaGreatDoor.Wk

/-
  References: what they come to; the contract of references.
-/
namespace Go.Proofs.YtagmmbkgjomdlaaGreatDoor.Wk
open Go.RowKit Go.Proofs.YtagmmbkgjomdlaaGreatDoor.Ar Go.Proofs.YtagmmbkgjomdlaaGreatDoor.Lk Go.Shelf Go.Sort Go.Maps
open Go.Proofs.YtagmmbkgjomdlaaGreatDoor.Sp hiding Own own_from own_put back_own Seen own_cells seen_one
open Go.Proofs.YtagmmbkgjomdlaaGreatDoor.Sh (ofE ofT ofS addrR inG inG_iff)
open Go.Proofs.YtagmmbkgjomdlaaGreatDoor.Hd (Hd Fields)
open Go.Proofs.YtagmmbkgjomdlaaGreatDoor.Tb (Ty Tab)
set_option linter.unusedVariables false
attribute [local go_sem] Oper.semAt_some

theorem scans_obj {ws : List Int} {l : List Ty} {cs : List Cel} (hC : Scans ws l 0 cs) : ∀ c ∈ objs cs, ofE ws l c.a = 0 := by
  intro c hc
  obtain ⟨hc, ht⟩ := objs_mem.1 hc
  obtain ⟨h1, h2⟩ := hC.mem c hc
  obtain ⟨k1, k2, k3⟩ := cellB_iff.1 h1
  obtain ⟨a, _, _, _⟩ := cellB_facts h1
  unfold ofE
  rw [if_neg (by simpa using k1), if_neg]
  rintro (h | h | h)
  · exact h (by rw [← h2]; exact ht)
  · exact h k2
  · rw [(inG_iff _ _ _).2 ⟨a, k3⟩] at h; cases h
theorem objs_in {ws : List Int} {l : List Ty} {cs : List Cel} (hC : Scans ws l 0 cs) (hb : gran ws ≤ 32768) : ∀ c ∈ objs cs, 0 ≤ c.a ∧ c.a ≤ 32768 := by
  intro c hc
  obtain ⟨hc, _⟩ := objs_mem.1 hc
  obtain ⟨⟨a, b⟩, ⟨d, _⟩, _⟩ := scans_cell hC hb c hc
  omega
theorem objs_few {cs : List Cel} (h : cs.length ≤ 32768) : (objs cs).length ≤ 32768 := Nat.le_trans (List.length_filter_le _ _) h
theorem references_ok (pa pt A : Option Addr) (n c : Nat) (w : World) :
    Calls Tryz.prog 51 #[.pointer pa, .pointer pt, .slice A n c] w fun e w' => e = .returned (.func (.func 100) #[] #[.pointer (some ⟨w.heap.size + 1 + 1, 0, none⟩), .pointer (some ⟨w.heap.size, 0, none⟩), .pointer (some ⟨w.heap.size + 1, 0, none⟩)]) ∧ w' = ((w.alloc (.cells #[.pointer pa] 62)).alloc (.cells #[.pointer pt] 64)).alloc (.cells #[.slice A n c] 36) := by
  go_enter Tryz.func51, Tryz.ntmps51
  go_wp2_with fail
  go_ret
  exact ⟨by simp, rfl⟩
/-- Is a word the address of one of these objects? -/
def leads (os : List Cel) (u : Int) : Bool := os.any (fun c => decide (addrR c.a = u))
theorem leads_has (os : List Cel) (u : Int) : Maps.has (begD os) (.int .u64 u) = leads os u := begD_has os u
theorem leads_at {os : List Cel} (h0 : ∀ c ∈ os, 0 ≤ c.a) {u : Int} (h : leads os u = true) (z : DataW Unit) : (begD os).atKey (.int .u64 u) z = .lit (.int .i64 ((u - 1048576) / 2)) := by
  obtain ⟨c, hc, e⟩ := List.any_eq_true.1 h
  have e := of_decide_eq_true e
  subst e
  rw [begD_at os h0 c hc]
  have := h0 c hc
  unfold addrR
  rw [if_neg (by omega)]
  congr 2
  omega
/-- The faults of references; the edges. -/
def refF (os : List Cel) (rs : List Tri) : List Tri := (rs.filter fun x => !(leads os x.c) && decide (x.c ≠ 0)).map fun x => ⟨x.a, x.b, 8⟩
def edgF (os : List Cel) (rs : List Tri) : List Tri := (rs.filter fun x => leads os x.c).map fun x => ⟨x.a, x.b, (x.c - 1048576) / 2⟩
theorem refF_snoc (os : List Cel) (rs : List Tri) (x : Tri) : refF os (rs ++ [x]) = if (!(leads os x.c) && decide (x.c ≠ 0)) = true then refF os rs ++ [⟨x.a, x.b, 8⟩] else refF os rs := by
  unfold refF
  rw [List.filter_append, List.map_append]
  by_cases h : (!(leads os x.c) && decide (x.c ≠ 0)) = true
  · have e : ([x].filter fun x => !(leads os x.c) && decide (x.c ≠ 0)) = [x] := by rw [List.filter_cons_of_pos (by exact h)]; rfl
    rw [if_pos h, e]; rfl
  · have e : ([x].filter fun x => !(leads os x.c) && decide (x.c ≠ 0)) = [] := by rw [List.filter_cons_of_neg (by exact h)]; rfl
    rw [if_neg h, e]; simp
theorem edgF_snoc (os : List Cel) (rs : List Tri) (x : Tri) : edgF os (rs ++ [x]) = if leads os x.c = true then edgF os rs ++ [⟨x.a, x.b, (x.c - 1048576) / 2⟩] else edgF os rs := by
  unfold edgF
  rw [List.filter_append, List.map_append]
  by_cases h : leads os x.c = true
  · have e : ([x].filter fun x => leads os x.c) = [x] := by rw [List.filter_cons_of_pos (by exact h)]; rfl
    rw [if_pos h, e]; rfl
  · have e : ([x].filter fun x => leads os x.c) = [] := by rw [List.filter_cons_of_neg (by exact h)]; rfl
    rw [if_neg h, e]; simp
theorem refF_len (os : List Cel) (rs : List Tri) : (refF os rs).length ≤ rs.length := by unfold refF; rw [List.length_map]; exact List.length_filter_le _ _
theorem edgF_len (os : List Cel) (rs : List Tri) : (edgF os rs).length ≤ rs.length := by unfold edgF; rw [List.length_map]; exact List.length_filter_le _ _
/-- An object's slots have room in its granules. -/
theorem obj_sz {ws : List Int} {l : List Ty} {g : Int} (h : ofE ws l g = 0) : ofS ws l g + 1 ≤ 2 * (Sh.hdH ws g).sz := by
  have S := Sh.stand_of h
  have hfit := S.fit
  unfold Hd.fitL Hd.fitE at hfit
  by_cases hc : (Sh.hdH ws g).can
  · rw [if_neg (by simpa using hc), if_neg (by simpa using S.tag)] at hfit
    have hne : ¬ (Tb.sizeE l (Sh.hdH ws g).ty (Sh.hdH ws g).ln ≠ 0 ∨ Hd.ofL l (Sh.hdH ws g).ty (Sh.hdH ws g).ln ≠ Sh.hdH ws g) := by
      intro hh
      rw [if_pos hh] at hfit
      cases hfit
    have he : Tb.sizeE l (Sh.hdH ws g).ty (Sh.hdH ws g).ln = 0 := Classical.byContradiction fun e => hne (.inl e)
    have ho : Hd.ofL l (Sh.hdH ws g).ty (Sh.hdH ws g).ln = Sh.hdH ws g := Classical.byContradiction fun e => hne (.inr e)
    have hhas : Tb.hasT l (Sh.hdH ws g).ty = true := by
      cases hx : Tb.hasT l (Sh.hdH ws g).ty with
      | true => rfl
      | false => unfold Tb.sizeE at he; rw [hx, if_neg (by decide)] at he; cases he
    have herr : Kd.err (ofT ws l g).k (ofT ws l g).wd (ofT ws l g).ms (Sh.hdH ws g).ln = 0 := by
      unfold Tb.sizeE at he
      rw [hhas] at he
      exact he
    obtain ⟨b0, b1⟩ := Kd.slots_bound herr
    have hsz : (Sh.hdH ws g).sz = Kd.sizeR (ofT ws l g).k (ofT ws l g).wd (ofT ws l g).ms (Sh.hdH ws g).ln := by
      rw [← ho]
      unfold Hd.ofL Hd.ofH
      rw [if_pos he]
      simp only
      unfold Tb.sizeT
      rw [hhas]
      rfl
    have hss : ofS ws l g = Kd.slots (ofT ws l g).k (ofT ws l g).wd (Sh.hdH ws g).ln := by unfold ofS Kd.slotsR; rw [if_pos herr]
    unfold Kd.sizeR at hsz
    rw [if_pos herr] at hsz
    rw [hss]
    omega
  · rw [if_pos hc] at hfit
    cases hfit
/-- So there are no more references than words. -/
theorem rfs_scan {ws : List Int} {l : List Ty} : ∀ {cs : List Cel} {g : Int}, Scans ws l g cs → (∀ c ∈ objs cs, ofE ws l c.a = 0) → cs = [] ∨ ((rfs ws l (objs cs)).length : Int) ≤ 2 * ((ws.length : Int) / 2 - g)
  | [], g, h, _ => .inl rfl
  | c :: cs, g, h, ho => by
    obtain ⟨h1, h2, h3⟩ := h
    obtain ⟨a, _, d, e⟩ := cellB_facts h1
    have hca : c.a = g := by rw [h2]
    have hch : c.h = Sh.hdH ws g := by rw [h2]
    have ih := rfs_scan h3 (fun x hx => ho x (by rw [objs_mem] at hx ⊢; exact ⟨List.mem_cons_of_mem _ hx.1, hx.2⟩))
    have h9 : (c.h.tg = 1 ∧ objs (c :: cs) = c :: objs cs) ∨ objs (c :: cs) = objs cs := by
      by_cases ht : c.h.tg = 1
      · exact .inl ⟨ht, by unfold objs; rw [List.filter_cons_of_pos (by simpa using ht)]⟩
      · exact .inr (by unfold objs; rw [List.filter_cons_of_neg (by simpa using ht)])
    have ih : ((rfs ws l (objs cs)).length : Int) ≤ 2 * ((ws.length : Int) / 2 - (g + c.h.sz)) := by
      rcases ih with rfl | ih
      · simp only [objs, List.filter_nil, rfs, List.flatMap_nil, List.length_nil]
        rw [hch]
        omega
      · exact ih
    refine .inr ?_
    rcases h9 with ⟨ht, e9⟩ | e9
    · have hx := ho c (by rw [e9]; simp)
      rw [hca] at hx
      have h5 := obj_sz hx
      have h6 := slR_len ws l g
      have h7 := one_len ws l g
      have h8 : rfs ws l (objs (c :: cs)) = oneR ws l g ++ rfs ws l (objs cs) := by rw [e9]; unfold rfs; rw [List.flatMap_cons, hca]
      rw [h8, List.length_append]
      rw [hch] at ih
      push_cast
      omega
    · rw [e9]
      rw [hch] at ih
      omega
theorem rfs_few {ws : List Int} {l : List Ty} {cs : List Cel} (hC : Scans ws l 0 cs) (hb : gran ws ≤ 32768) : (rfs ws l (objs cs)).length ≤ 65536 := by
  have hb : (ws.length : Int) / 2 ≤ 32768 := hb
  rcases rfs_scan hC (scans_obj hC) with rfl | h
  · simp [objs, rfs]
  · omega
theorem Mp.from {B b n : Nat} {D : DataW Unit} (hb : b < B) : OwnFrom B (fun (_ : Unit) W => Mp W b n D) :=
  fun s X Y row hs hg hr => World.ownsMap.kept hs hg fun e => by
    obtain ⟨h, _⟩ := hr b e.symm
    omega

theorem Mp.kept1 {w x : World} {b n : Nat} {D : DataW Unit} {S : List Nat} (h : Mp w b n D) (k : Kept S w x) (hb : b ∉ S) : Mp x b n D := by
  have hlt := h.lt
  obtain ⟨es, clock, hm, F, hs, hD⟩ := h
  exact ⟨es, clock, (k.old b hlt hb).trans hm, F, hs, hD⟩
theorem Mp.ne {w : World} {b n g : Nat} {D : DataW Unit} {t : TypeId} {cs : List Value} (h : Mp w b n D) (hh : Has w g t cs) (hm : b ∈ [g]) : False := by
  obtain ⟨es, clock, hb, _⟩ := h
  rw [List.mem_singleton.1 hm] at hb
  have := hh.symm.trans hb
  injection this with this
  cases this
theorem rfs_word {X : World} {pa pt : Option Addr} {l : List Ty} {ws : List Int} (h : Good X pa pt l ws) {os : List Cel} (hoe : ∀ c ∈ os, ofE ws l c.a = 0) : ∀ x ∈ rfs ws l os, 0 ≤ x.c ∧ x.c ≤ 18446744073709551615 := by
  intro x hx
  rcases h.2 with ⟨_, rfl⟩ | ⟨ap, aq, m, tp, A, c, rfl, rfl, ha, ht, hw⟩
  · unfold rfs at hx
    obtain ⟨c, hc, hx⟩ := List.mem_flatMap.1 hx
    rw [one_slots] at hx
    obtain ⟨r, _, rfl⟩ := List.mem_map.1 hx
    simp
  · unfold rfs at hx
    obtain ⟨c, hc, hx⟩ := List.mem_flatMap.1 hx
    rw [one_slots] at hx
    obtain ⟨r, _, rfl⟩ := List.mem_map.1 hx
    exact Sh.wds_of hw _
end Go.Proofs.YtagmmbkgjomdlaaGreatDoor.Wk

/-
  The contract of refFaults.
-/
namespace Go.Proofs.YtagmmbkgjomdlaaGreatDoor.Wk
open Go.RowKit Go.Proofs.YtagmmbkgjomdlaaGreatDoor.Ar Go.Proofs.YtagmmbkgjomdlaaGreatDoor.Lk Go.Shelf Go.Sort Go.Maps
open Go.Proofs.YtagmmbkgjomdlaaGreatDoor.Sp hiding Own own_from own_put back_own Seen own_cells seen_one
open Go.Proofs.YtagmmbkgjomdlaaGreatDoor.Sh (ofE ofT ofS addrR inG inG_iff)
open Go.Proofs.YtagmmbkgjomdlaaGreatDoor.Hd (Hd Fields)
open Go.Proofs.YtagmmbkgjomdlaaGreatDoor.Tb (Ty Tab)
set_option linter.unusedVariables false
attribute [local go_sem] Oper.semAt_some

set_option maxRecDepth 100000 in
set_option maxHeartbeats 4000000 in
theorem refFaults_ok {w : World} {pa pt : Option Addr} {l : List Ty} {ws : List Int} {os : List Cel} {A : Option Addr} {c : Nat} (hg : Good w pa pt l ws) (hO : Sp.Own w (.slice A os.length c) os) (hlen : os.length ≤ 32768) (hoe : ∀ c ∈ os, ofE ws l c.a = 0) (hin : ∀ c ∈ os, 0 ≤ c.a ∧ c.a ≤ 32768) (hfew : (rfs ws l os).length ≤ 65536) :
    Calls Tryz.prog 58 #[.pointer pa, .pointer pt, .slice A os.length c] w fun e w' => ∃ v, e = .returned v ∧ Own Flt w' v (refF os (rfs ws l os)) ∧ Sp.FreshV w v ∧ Kept [] w w' := by
  have Hwd := Lib.hid (rfs_word hg hoe)
  have HGd := Lib.hid hg
  have HOw := Lib.hid hO
  have Hlen := Lib.hid hlen
  have HOe := Lib.hid hoe
  have Hin := Lib.hid hin
  have Hfew := Lib.hid hfew
  clear hg hO hoe hin hfew
  refine (callsIn_wide (n := 5)).1 ?_
  refine callsIn_of_wp_marks Tryz.func58 rfl trivial ?_ rfl
  simp only [Tryz.ntmps58, List.size_toArray, List.length_cons, List.length_nil, Nat.reduceAdd, Nat.reduceSub, Array.replicate_succ, Array.replicate_zero, List.push_toArray, List.append_toArray, List.nil_append, List.cons_append]
  gi_wp2_with (fail)
  have hk1 : Kept [] w (w.alloc (.cells #[.slice none 0 0] 58)) := (Kept.refl [] w).alloc _
  have h1 := Has.new w 58 [.slice none 0 0]
  obtain ⟨w1, hw1⟩ : ∃ w1, w.alloc (.cells #[.slice none 0 0] 58) = w1 := ⟨_, rfl⟩
  have hw1' : w.alloc (.cells [.slice none 0 0].toArray 58) = w1 := hw1
  rw [hw1] at hk1 ⊢
  rw [hw1'] at h1
  clear hw1 hw1'
  have H10 := Lib.hid h1
  have K1 := Lib.hid hk1
  clear h1 hk1
  refine ⟨trivial, (callsIn_wide.2 (beginnings_ok (c := c) os (HOw.out.keep0 K1.out).seen hlen Hin.out)).mono ?_⟩
  rintro e w2 ⟨bm, rfl, hm2, _, k2⟩
  have H12 := Lib.hid (H10.out.keep0 k2)
  have HM2 := Lib.hid hm2
  have K2 := Lib.hid (K1.out.trans k2)
  clear k2 hm2 K1 H10
  gi_wp2_with (fail)
  have hk4 : Kept [] w2 (w2.alloc (.cells #[.map (some bm)] 107)) := (Kept.refl [] w2).alloc _
  have h4 := Has.new w2 107 [.map (some bm)]
  obtain ⟨w4, hw4⟩ : ∃ w4, w2.alloc (.cells #[.map (some bm)] 107) = w4 := ⟨_, rfl⟩
  have hw4' : w2.alloc (.cells [.map (some bm)].toArray 107) = w4 := hw4
  rw [hw4] at hk4 ⊢
  rw [hw4'] at h4
  clear hw4 hw4'
  refine ⟨trivial, (callsIn_wide.2 (references_ok pa pt A os.length c _)).mono ?_⟩
  rintro e w5 ⟨rfl, hw5⟩
  have hk5 : Kept [] w4 w5 := by rw [hw5]; exact (((Kept.refl [] w4).alloc _).alloc _).alloc _
  have hb5 : Has w5 w4.heap.size 62 [.pointer pa] := by rw [hw5]; exact ((Has.new w4 _ _).alloc _).alloc _
  have hg5 : Has w5 (w4.heap.size + 1) 64 [.pointer pt] := by
    rw [hw5]
    have := (Has.new (w4.alloc (.cells #[.pointer pa] 62)) 64 [.pointer pt]).alloc (.cells #[.slice A os.length c] 36)
    rwa [World.size_alloc] at this
  have ho5 : Has w5 (w4.heap.size + 1 + 1) 36 [.slice A os.length c] := by
    rw [hw5]
    have := Has.new ((w4.alloc (.cells #[.pointer pa] 62)).alloc (.cells #[.pointer pt] 64)) 36 [.slice A os.length c]
    rwa [World.size_alloc, World.size_alloc] at this
  have hl5 := (H12.out.keep0 hk4).keep0 hk5
  have Hm5 := Lib.hid (h4.keep0 hk5)
  have Hp5 := Lib.hid (Mp.keep0 (Mp.keep0 HM2.out hk4) hk5)
  have Hbm := Lib.hid (Nat.lt_of_lt_of_le HM2.out.lt (Nat.le_trans hk4.more hk5.more))
  have hkw5 := (K2.out.trans hk4).trans hk5
  have Hk5 := Lib.hid hkw5
  have Hb5 := Lib.hid hb5
  have Hg5 := Lib.hid hg5
  have Ho5 := Lib.hid ho5
  have Hl5 := Lib.hid hl5
  have HOw5 := Lib.hid (HOw.out.keep0 hkw5)
  have HG5 := Lib.hid (HGd.out.keep0 hkw5)
  have hne : w4.heap.size + 1 + 1 ∉ [w.heap.size] := by
    have := (K2.out.trans hk4).more
    simp
    omega
  have HSb : Hid (Boxes w5 [w.heap.size] ∧ w4.heap.size + 1 + 1 ∉ [w.heap.size]) := Lib.hid ⟨⟨fun b hb => by rw [List.mem_singleton.1 hb]; exact ⟨_, _, hl5, by decide⟩, fun b hb => by rw [List.mem_singleton.1 hb]; exact ownAt_has hl5, fun b hb => by rw [List.mem_singleton.1 hb]; exact Nat.ne_of_gt HGd.out.1.lt⟩, hne⟩
  clear hk5 hb5 hg5 ho5 hw5 hl5 hkw5 hne hk4 h4 K2 H12 HM2
  obtain ⟨ba, hba⟩ : ∃ ba, w4.heap.size = ba := ⟨_, rfl⟩
  obtain ⟨bb, hbb⟩ : ∃ bb, w4.heap.size + 1 = bb := ⟨_, rfl⟩
  obtain ⟨bo, hbo⟩ : ∃ bo, w4.heap.size + 1 + 1 = bo := ⟨_, rfl⟩
  rw [hbo] at Ho5 HSb ⊢
  rw [hbb] at Hg5 ⊢
  rw [hba] at Hb5 ⊢
  clear hba hbb hbo
  gi_wp2_with (fail)
  refine wpIn_rangeFunc_ownH rfl (by decide) (gf := 100) (lb := #[.pointer (some ⟨bo, 0, none⟩), .pointer (some ⟨ba, 0, none⟩), .pointer (some ⟨bb, 0, none⟩)]) rfl trivial (enters_of Tryz.func100 (by kernel_rfl) rfl)
    (wrefs_stops 4 (by decide) [w.heap.size] bo ba bb pa pt l ws (os) _ w5 Ho5.out HSb.out.2 HOw5.out Hlen.out Hb5.out Hg5.out HG5.out HOe.out HSb.out.1)
    (fun h k => h.trans k) (fun W l o o' hl h hc _ => Kpn.put (fun b hb => by rw [List.mem_singleton.1 hb]; exact Hl5.out.lt) W l o o' hl h hc) (Below.refl _ _) (fun _ => rfl)
    (fun pre W => ((Has W w2.heap.size 107 [.map (some bm)] ∧ Mp W bm (os).length (begD (os))) ∧ ∃ v, Has W w.heap.size 58 [v] ∧ Own Flt W v (refF (os) (valsR pre)) ∧ Sp.FreshV w v) ∧ Kept [] w W)
    (fun _ _ _ => False)
    (OwnFrom.and (OwnFrom.and (OwnFrom.and (fun pre X Y row hs hg hr => own_has (β := Unit) (f := fun _ => [.map (some bm)]) () X Y row hs hg hr) (fun pre X Y row hs hg hr => Mp.from Hbm.out () X Y row hs hg hr)) (fun pre X Y row hs hg hr => by
      obtain ⟨v, h1, h2, h3⟩ := hs
      exact ⟨v, own_has (β := Unit) (f := fun _ => [v]) () X Y row h1 hg hr, own_from () X Y row h2 hg hr, h3⟩)) (own_kept Hk5.out.more))
    (fun _ _ _ _ _ hs _ _ => hs)
    ⟨⟨⟨Hm5.out, Hp5.out⟩, _, Hl5.out, Own.nil _, .inl rfl⟩, Hk5.out⟩
    (fun x a' W => ∃ Bx, Has W Bx 113 [.int .i64 x.1.a, .int .i64 x.1.b, .int .u64 x.1.c] ∧ a' = { tmps := #[.pointer pa, .pointer pt, .slice A os.length c, undef, undef, undef, .slice none 0 0, .pointer (some ⟨w.heap.size, 0, none⟩), .pointer (some ⟨w2.heap.size, 0, none⟩), .pointer (some ⟨Bx, 0, none⟩), undef, undef, .slice A os.length c, .map (some bm), .pointer pa, .pointer pt, .slice A os.length c, .func (.func 100) #[] #[.pointer (some ⟨bo, 0, none⟩), .pointer (some ⟨ba, 0, none⟩), .pointer (some ⟨bb, 0, none⟩)], .agg #[.int .i64 x.1.a, .int .i64 x.1.b, .int .u64 x.1.c], undef, undef, undef, undef, undef, undef, undef, undef, undef, undef, undef, undef, undef, undef, undef, undef, undef, undef, undef, undef, undef, undef, undef], defers := [] })
    (fun x a' _ X Y row hs hg hr => by
      obtain ⟨Bx, h2, h3⟩ := hs
      exact ⟨Bx, own_has (β := Unit) (f := fun _ => [.int .i64 x.1.a, .int .i64 x.1.b, .int .u64 x.1.c]) () X Y row h2 hg hr, h3⟩)
    ?assign ?body ?done ?stop
  case assign =>
    rintro lo pre x W K ⟨⟨⟨hi2, hp⟩, v, hi3, hO, hV⟩, hk⟩ hK
    unfold encR
    have HK := Lib.hid hK
    have HI := Lib.hid hi3
    have HI2 := Lib.hid hi2
    have HP := Lib.hid hp
    have HO := Lib.hid hO
    have HV := Lib.hid hV
    have Hk := Lib.hid hk
    clear hi3 hi2 hk hK hO hV hp
    gi_wp2
    have hkn : Kept [] W (W.alloc (.cells #[.int .i64 x.1.a, .int .i64 x.1.b, .int .u64 x.1.c] 113)) := (Kept.refl [] W).alloc _
    exact HK.out _ _ (keepsFrom_of hkn (by simp)) (Kpn.ofKept hkn (fun b hb => by rw [List.mem_singleton.1 hb]; exact HI.out.lt)) ⟨⟨⟨HI2.out.keep0 hkn, Mp.keep0 HP.out hkn⟩, v, HI.out.keep0 hkn, HO.out.keep0 hkn, HV.out⟩, Hk.out.trans hkn⟩ ⟨W.heap.size, Has.new W _ _, rfl⟩
  case body =>
    rintro lo pre y a' W _ _ ⟨⟨⟨hi2, hp⟩, v, hi3, hO, hV⟩, hk⟩ ⟨Bx, hX, rfl⟩ hlen
    have hsn := valsR_snoc pre y
    have hos := refF_snoc (os) (valsR pre) y.1
    rw [← hsn] at hos
    have hlr : (refF (os) (valsR pre)).length ≤ 65536 := by
      have h1 := refF_len (os) (valsR pre)
      have h2 : (valsR pre).length = pre.length := List.length_map _
      have h3 := Hfew.out
      omega
    clear hsn
    obtain ⟨⟨xa, xb, xc⟩, hy⟩ := y
    have hxc := Hwd.out _ hy
    simp only at hos hX hxc
    obtain ⟨x0, x1, x2⟩ := Kd.cells3 hX
    have c3 := hi3.cell 0
    have f3 := hi3.free 0
    have d3 := hi2.cell 0
    simp at c3 d3
    have hhas := leads_has (os) xc
    have hat := fun h => leads_at (os := os) (fun c hc => (Hin.out c hc).1) (u := xc) h
    have Hk := Lib.hid hk
    have H3' := Lib.hid hi3
    have H2' := Lib.hid hi2
    have HP := Lib.hid hp
    have HO := Lib.hid hO
    have HV := Lib.hid hV
    have HX := Lib.hid hX
    have Hat := Lib.hid hat
    have Hos := Lib.hid hos
    clear hk hlen hO hV hX hi3 hi2 hp hat hos
    dsimp only
    gi_wp2_with (gi_at_lookup; refine wpListIn_lookup_own_ok_int _ rfl _ _ 107 rfl 32 3 .i64 lawK Tryz.underlying107 Tryz.underlying3 (zeroE _) bm _ _ rfl HP.out _ (.int .u64 xc) rfl (keyOf_int_mk Tryz.underlying32 (WalkArith.wf_u64 hxc)) ?_)
    intro cc hcc hwf
    try rw [hhas]
    cases hld : leads (os) xc with
    | true =>
      have Hos' : Hid (refF (os) (valsR (pre ++ [(⟨⟨xa, xb, xc⟩, hy⟩ : ElR (rfs ws l (os)))])) = refF (os) (valsR pre)) := Lib.hid (by rw [Hos.out, if_neg (by rw [hld]; simp)])
      gi_wp2_with (fail)
      exact ⟨keepsFrom_of (Kept.refl [] W) (by simp), Kpn.refl _ _, ⟨⟨H2'.out, HP.out⟩, v, H3'.out, by rw [Hos'.out]; exact HO.out, HV.out⟩, Hk.out⟩
    | false =>
      by_cases hz : xc = 0
      · have hzb : (xc != 0) = false := by simpa using hz
        have Hos' : Hid (refF (os) (valsR (pre ++ [(⟨⟨xa, xb, xc⟩, hy⟩ : ElR (rfs ws l (os)))])) = refF (os) (valsR pre)) := Lib.hid (by rw [Hos.out, if_neg (by simp [hz])])
        gi_wp2_with (fail)
        exact ⟨keepsFrom_of (Kept.refl [] W) (by simp), Kpn.refl _ _, ⟨⟨H2'.out, HP.out⟩, v, H3'.out, by rw [Hos'.out]; exact HO.out, HV.out⟩, Hk.out⟩
      · have hzb : (xc != 0) = true := by simpa using hz
        have Hos' : Hid (refF (os) (valsR (pre ++ [(⟨⟨xa, xb, xc⟩, hy⟩ : ElR (rfs ws l (os)))])) = refF (os) (valsR pre) ++ [⟨xa, xb, 8⟩]) := Lib.hid (by rw [Hos.out, if_pos (by rw [hld]; simpa using hz)])
        have hka : Kept [] W (W.alloc (.cells #[.int .i64 xa, .int .i64 xb, .int .i64 8] 69)) := (Kept.refl [] W).alloc _
        have hB : Has (W.alloc (.cells #[.int .i64 xa, .int .i64 xb, .int .i64 8] 69)) W.heap.size 69 (Tri.l ⟨xa, xb, 8⟩) := Has.new W 69 [.int .i64 xa, .int .i64 xb, .int .i64 8]
        have H0 : Hid (Seen Flt (W.alloc (.cells #[.int .i64 xa, .int .i64 xb, .int .i64 8] 69)) (some ⟨W.heap.size, 0, none⟩) [(⟨xa, xb, 8⟩ : Tri)]) := Lib.hid (seen_one (K := Flt) hB)
        have HOa := Lib.hid (HO.out.keep0 hka)
        have Hka := Lib.hid hka
        clear hka hB
        generalize refF (os) (valsR pre) = rs at *
        have hb1 : rs.length + 1 ≤ 1073741824 := by omega
        gi_wp2_with (gi_at_builtin; refine append_in Flt rfl (.tmp 33) (.tmp 39) rfl v rs rfl HOa.out _ 1 1 [(⟨xa, xb, 8⟩ : Tri)] rfl rfl H0.out hb1 ?_)
        all_goals
          intro v' w3 hO hG hV
          have hk3 : Kept [] w w3 := own_grown (Hk.out.trans Hka.out) HV.out hG
          have hF3 := own_fresh (v' := v') (Hk.out.trans Hka.out) HV.out (by rw [World.size_alloc]; exact hV)
          have hS := Sp.kept_grown hG
          have hne : w.heap.size ∉ v.ownBlock.toList := fun hm => by
            obtain ⟨cs, hcs⟩ := own_cells (K := Flt) HO.out _ hm
            exact Has.block_type H3'.out hcs (by decide) rfl
          have h3 := (H3'.out.keep0 Hka.out).kept hS hne
          have h2 := (H2'.out.keep0 Hka.out).kept hS (fun hm => by
            obtain ⟨cs, hcs⟩ := own_cells (K := Flt) HO.out _ hm
            exact Has.block_type H2'.out hcs (by decide) rfl)
          have hp3 := World.ownsMap.kept (Mp.keep0 HP.out Hka.out) hG (fun e => by
            obtain ⟨cs, hcs⟩ := own_cells (K := Flt) HOa.out bm (by rw [← e]; simp)
            obtain ⟨es, ck, hb, _⟩ := Mp.keep0 HP.out Hka.out
            have := hcs.symm.trans hb
            injection this with this
            cases this)
          have c3 := h3.cell 0
          have f3 := h3.free 0
          simp at c3
          obtain ⟨g', cap', rfl, hg', _⟩ : ∃ g cap, v' = .slice (some ⟨g, 0, none⟩) (rs ++ [(⟨xa, xb, 8⟩ : Tri)]).length cap ∧ g < w3.heap.size ∧ (rs ++ [(⟨xa, xb, 8⟩ : Tri)]).length ≤ cap := by
            rcases hO.form with ⟨_, h⟩ | h
            · exact absurd (List.append_eq_nil_iff.1 h).2 (List.cons_ne_nil _ _)
            · obtain ⟨g, cap, h1, h2, h3, _⟩ := h
              exact ⟨g, cap, h1, h2, h3⟩
          have hown : ∀ X : World, w3.heap.size ≤ X.heap.size → (Value.slice (some ⟨g', 0, none⟩) (rs ++ [(⟨xa, xb, 8⟩ : Tri)]).length cap').ownBlock = v.ownBlock ∨ ∃ g, (Value.slice (some ⟨g', 0, none⟩) (rs ++ [(⟨xa, xb, 8⟩ : Tri)]).length cap').ownBlock = some g ∧ W.heap.size ≤ g ∧ g < X.heap.size := fun X hX => by
            rcases hV with h | h
            · exact .inl h
            · refine .inr ⟨g', rfl, ?_, by omega⟩
              have h : some g' = some _ := h
              injection h with h
              try rw [World.size_alloc] at h
              omega
          have HO3 := Lib.hid hO
          have Hk3 := Lib.hid hk3
          have HF3 := Lib.hid hF3
          have HS := Lib.hid ((Hka.out.none _).trans hS)
          have H33 := Lib.hid h3
          have H23 := Lib.hid h2
          have HP3 := Lib.hid hp3
          have Hown := Lib.hid hown
          clear hO hk3 hF3 hS h3 h2 hne hG hV H0 HOa hown hp3
          obtain ⟨len, hlen⟩ : ∃ len, len = (rs ++ [(⟨xa, xb, 8⟩ : Tri)]).length := ⟨_, rfl⟩
          rw [← hlen] at HO3 HF3 Hown ⊢
          clear hlen
          gi_wp2_with (fail)
          have hKS : Kept [w.heap.size] w3 (w3.setCell ⟨w.heap.size, 0, none⟩ (.slice (some ⟨g', 0, none⟩) len cap')) := (Kept.refl _ w3).setCell _ _ (.inl (by simp))
          have hKA : Kept (w.heap.size :: v.ownBlock.toList) W (w3.setCell ⟨w.heap.size, 0, none⟩ (.slice (some ⟨g', 0, none⟩) len cap')) := (HS.out.mono fun b hb => List.mem_cons_of_mem _ hb).trans (hKS.mono (by simp))
          have hbx : Has (w3.setCell ⟨w.heap.size, 0, none⟩ (.slice (some ⟨g', 0, none⟩) len cap')) w.heap.size 58 [.slice (some ⟨g', 0, none⟩) len cap'] := H33.out.put 0 _
          refine ⟨keepsFrom_of hKA ?_, Kpn.box (List.mem_singleton.2 rfl) H3'.out hKA hbx (Hown.out _ hKS.more) (fun c hc hn => absurd (List.mem_singleton.1 hc) hn), ⟨⟨H23.out.kept hKS (fun hm => Has.block_type H23.out H33.out (by decide) (List.mem_singleton.1 hm)), Mp.kept1 HP3.out hKS (fun e => Mp.ne HP3.out H33.out e)⟩, _, hbx, ?_, HF3.out⟩, Hk3.out.forget hKS (by simp)⟩
          · intro b hb
            rcases List.mem_cons.1 hb with rfl | hb
            · exact ⟨_, _, H3'.out⟩
            · exact ⟨_, own_cells (K := Flt) HO.out b hb⟩
          · rw [Hos'.out]
            exact HO3.out.kept hKS fun g hg e => by
              obtain rfl := List.mem_singleton.1 hg
              obtain ⟨cs, hcs⟩ := own_cells (K := Flt) HO3.out w.heap.size (by rw [e]; simp)
              exact Has.block_type H33.out hcs (by decide) rfl
  case done =>
    rintro D xs W hD hx ⟨⟨⟨hi2, hp⟩, v, hi3, hO, hV⟩, hk⟩ hK
    have c3 := hi3.cell 0
    simp at c3
    have HKd := Lib.hid hK
    have Hk := Lib.hid hk
    have HE : Hid (valsR xs = rfs ws l (os)) := Lib.hid hx
    have HO := Lib.hid hO
    have HV := Lib.hid hV
    clear hK hk hi3 hi2 hx hO hV hp
    generalize valsR xs = P at *
    gi_wp2_with (fail)
    refine ⟨by simp, .inl ⟨_, _, rfl, run_takeDeferred HKd.out, ?_⟩⟩
    exact ⟨_, results_tmp rfl _ _ _, ⟨v, rfl, by rw [← HE.out]; exact own_put HO.out D _ _ HKd.out rfl, HV.out, kept_put Hk.out D _ (Nat.le_trans Hk5.out.more hD)⟩⟩
  case stop =>
    rintro D c pre W _ _ h _
    exact h.elim
end Go.Proofs.YtagmmbkgjomdlaaGreatDoor.Wk

/-
  In a round: what is left of a region that draws its order, once its first operations are over and the rest come one behind the other; append of a run to a row of runs.
-/
namespace Go.Proofs.YtagmmbkgjomdlaaGreatDoor.Bt
open Go.RowKit Go.Proofs.YtagmmbkgjomdlaaGreatDoor.Ar
theorem kept_grown {w w' : World} {v : Value} (hg : w.grownBy w' v.ownBlock) : Kept v.ownBlock.toList w w' :=
  (Kept.refl _ w).grown hg fun g e => .inl (by rw [e]; simp)
end Go.Proofs.YtagmmbkgjomdlaaGreatDoor.Bt
