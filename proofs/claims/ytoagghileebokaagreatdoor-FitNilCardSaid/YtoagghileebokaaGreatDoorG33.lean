/-
  Several texts in one: SpStore, SpDoes, WkMade, SpJoins.
-/
import Derived.Test.YtoagghileebokaaGreatDoorG30
import Derived.Test.YtoagghileebokaaGreatDoorG03
import Derived.Deep.RegionWith
import Derived.Test.YtoagghileebokaaGreatDoorG08
import Derived.Test.YtoagghileebokaaGreatDoorG31
import Derived.Test.YtoagghileebokaaGreatDoorG27
/-
  A word is laid into a slot: what becomes of a space; a view of one of its objects.
-/
namespace Go.Proofs.YtoagghileebokaaGreatDoor.Sp
open Go.RowKit Go.Proofs.YtoagghileebokaaGreatDoor.Ar Go.Proofs.YtoagghileebokaaGreatDoor.Sh
open Go.Proofs.YtoagghileebokaaGreatDoor.Hd (Hd Fields fitE ofL fitL wordI)
open Go.Proofs.YtoagghileebokaaGreatDoor.Tb (Ty sizeE sizeT getT hasT)
set_option linter.unusedVariables false
theorem facts_size {ws : List Int} {l : List Ty} {g : Int} (hT : ∀ x ∈ l, x.ok ∧ x.fit) (h : ofE ws l g = 0) : 0 ≤ g ∧ 0 ≤ ofS ws l g ∧ 2 * g + 1 + ofS ws l g ≤ 2 * (g + (hdH ws g).sz) ∧ g + (hdH ws g).sz ≤ (ws.length : Int) / 2 := by
  have S := stand_of h
  have hto : (ofT ws l g).ok := Tb.getT_ok hT (hdH ws g).ty
  obtain ⟨j0, j1⟩ := (inG_iff _ _ _).1 S.isin
  have hfit := S.fit
  unfold Hd.fitL fitE at hfit
  by_cases hc : (hdH ws g).can
  · rw [if_neg (by simpa using hc), if_neg (by simpa using S.tag)] at hfit
    have hne : ¬ (sizeE l (hdH ws g).ty (hdH ws g).ln ≠ 0 ∨ ofL l (hdH ws g).ty (hdH ws g).ln ≠ hdH ws g) := by
      intro hh
      rw [if_pos hh] at hfit
      cases hfit
    have he : sizeE l (hdH ws g).ty (hdH ws g).ln = 0 := Classical.byContradiction fun e => hne (.inl e)
    have ho : ofL l (hdH ws g).ty (hdH ws g).ln = hdH ws g := Classical.byContradiction fun e => hne (.inr e)
    have hhas : hasT l (hdH ws g).ty = true := by
      cases hx : hasT l (hdH ws g).ty with
      | true => rfl
      | false => unfold sizeE at he; rw [hx, if_neg (by decide)] at he; cases he
    have herr : Kd.err (ofT ws l g).k (ofT ws l g).wd (ofT ws l g).ms (hdH ws g).ln = 0 := by
      unfold sizeE at he
      rw [hhas] at he
      exact he
    obtain ⟨b0, b1⟩ := Kd.slots_bound herr
    have hsz : (hdH ws g).sz = Kd.sizeR (ofT ws l g).k (ofT ws l g).wd (ofT ws l g).ms (hdH ws g).ln := by
      rw [← ho]
      unfold Hd.ofL Hd.ofH
      rw [if_pos he]
      simp only
      unfold sizeT
      rw [hhas]
      rfl
    have hss : ofS ws l g = Kd.slots (ofT ws l g).k (ofT ws l g).wd (hdH ws g).ln := by unfold ofS Kd.slotsR; rw [if_pos herr]
    unfold Kd.sizeR at hsz
    rw [if_pos herr] at hsz
    rw [hss]
    omega
  · rw [if_pos hc] at hfit
    cases hfit


/-- The index of a slot's word. -/
def slotI (g n : Int) : Nat := (2 * g + 1 + n).toNat
theorem getD_set_ne (ws : List Int) (i k : Nat) (u : Int) (h : k ≠ i) : (ws.set i u).getD k 0 = ws.getD k 0 := by
  rw [List.getD_eq_getElem?_getD, List.getD_eq_getElem?_getD, List.getElem?_set_ne (fun e => h e.symm)]
theorem Snd.slot {ws : List Int} {l : List Ty} {bs : List Bool} {cs : List Cel} (h : Snd ws l bs cs) (hl : ∀ x ∈ l, x.ok ∧ x.fit) {c0 : Cel} (hc0 : c0 ∈ cs) (ht : c0.h.tg = 1) {n : Int} (n0 : 0 ≤ n) (n1 : n < ofS ws l c0.a) (u : Int) : Snd (ws.set (slotI c0.a n) u) l bs cs := by
  obtain ⟨hE, hH⟩ := obj_of h.tiled (Int.le_refl _) (Int.le_refl _) hc0 ht
  obtain ⟨f1, f2, f3, f4⟩ := facts_size hl hE
  rw [hH] at f3 f4
  have hlen : (ws.set (slotI c0.a n) u).length = ws.length := List.length_set ..
  refine ⟨?_, h.agree, by rw [gran_eq hlen]; exact h.len, h.neat, by rw [hlen]; exact h.short⟩
  rw [gran_eq hlen]
  refine h.tiled.keep fun c hc => ?_
  have hcb := h.tiled.mem c hc
  have hcs := can_sz hcb.2.2.1
  unfold atG
  refine getD_set_ne _ _ _ _ ?_
  unfold slotI
  intro e
  -- the cells begin at unlike granules
  obtain ⟨A, D, hAD⟩ := List.append_of_mem hc0
  have hT := h.tiled
  rw [hAD] at hT hc
  obtain ⟨m, t1, t2⟩ := Tiled.split hT
  have hm : c0.a = m := t2.1
  rcases List.mem_append.1 hc with hc | hc
  · obtain ⟨_, b2, _⟩ := t1.mem c hc
    omega
  · rcases List.mem_cons.1 hc with rfl | hc
    · omega
    · have := (Tiled.mem t2.2.2.2.2 c hc).1
      omega
section
variable {w x : World} {s : Ids} {r : Nat} {B : Option Addr} {d : Nat} {l : List Ty} {ws wd : List Int} {bs : List Bool} {cs : List Cel}
/-- A view of an object of the space. -/
theorem duo_view (h : Duo w x s r B d l ws bs cs wd) (g : Int) (g0 : -9223372036854775808 ≤ g) (g1 : g ≤ 9223372036854775807) (he : ofE ws l g = 0) :
    Calls Tryz.prog 81 #[.pointer (some ⟨s.ap, 0, none⟩), .pointer (some ⟨s.tp, 0, none⟩), .int .i64 g] x fun e y => ∃ v, e = .returned (.tuple #[.pointer (some ⟨v, 0, none⟩), .int .i64 0]) ∧ Sh.View y v s.ap g (hdH ws g) (ofT ws l g) (ofS ws l g) ∧ Kept [] x y := by
  obtain ⟨m, a⟩ := h.mine.spc.ar
  refine (of_ok h.mine.glob.f a h.mine.spc.wds h.mine.spc.tab g g0 g1).mono ?_
  rintro e y ⟨hk, ⟨h1, _⟩ | ⟨_, v, h2, h3, h4⟩⟩
  · exact absurd he h1
  · exact ⟨v, h2, h4, hk⟩
/-- A word is laid into a slot of an object of the space. -/
theorem duo_store (h : Duo w x s r B d l ws bs cs wd) {c : Cel} (hc : c ∈ cs) (ht : c.h.tg = 1) {v : Nat} (hv : Sh.View x v s.ap c.a (hdH ws c.a) (ofT ws l c.a) (ofS ws l c.a)) (n u : Int) (n0 : 0 ≤ n) (n1 : n < ofS ws l c.a) (u0 : 0 ≤ u) (u1 : u < 18446744073709551616) :
    Calls Tryz.prog 82 #[.pointer (some ⟨v, 0, none⟩), .int .i64 n, .int .u64 u] x fun e y => e = .returned (.int .i64 0) ∧ Duo w y s r B d l (ws.set (slotI c.a n) u) bs cs wd ∧ Kept (r :: s.turn) x y := by
  obtain ⟨m, a⟩ := h.mine.spc.ar
  have hall := h.mine.spc.tab.all
  obtain ⟨hE, hH⟩ := obj_of h.mine.snd.tiled (Int.le_refl _) (Int.le_refl _) hc ht
  obtain ⟨f1, f2, f3, f4⟩ := facts_size hall hE
  refine (vstore_ok hv a n u f1 f2 (by omega)).mono ?_
  rintro e y ⟨he, ha, hk⟩
  have hE2 : slotE (ofS ws l c.a) n = 0 := if_pos ⟨n0, n1⟩
  have hP : vput ws c.a (ofS ws l c.a) n u = ws.set (slotI c.a n) u := if_pos ⟨n0, n1⟩
  rw [hE2] at he
  rw [hP] at ha
  have hkt : Kept s.turn x y := hk.mono (fun i hi => by simp [Ids.turn] at hi ⊢; rcases hi with rfl | rfl <;> simp)
  refine ⟨he, h.ours hkt (h.mine.turned hkt (h.mine.spc.arena hk ha (h.mine.spc.wm.set _ u ⟨u0, u1⟩)) (h.mine.snd.slot hall hc ht n0 n1 u)), up hkt⟩
end
/-- A law's space and the document's, alike. -/
def Twin (w x : World) (s : Ids) (r : Nat) (B : Option Addr) (d : Nat) (l : List Ty) : Prop := ∃ ws bs cs, Duo w x s r B d l ws bs cs ws
theorem Twin.keep0 {w x y : World} {s : Ids} {r : Nat} {B : Option Addr} {d : Nat} {l : List Ty} (h : Twin w x s r B d l) (k : Kept [] x y) : Twin w y s r B d l := let ⟨ws, bs, cs, h⟩ := h; ⟨ws, bs, cs, h.keep0 k⟩
end Go.Proofs.YtoagghileebokaaGreatDoor.Sp

/-
  The contract of the law's Does: a step, of a space and of the document's.
-/
namespace Go.Proofs.YtoagghileebokaaGreatDoor.Ir
open Go.RowKit Go.Proofs.YtoagghileebokaaGreatDoor.Ar
/-- append of a row of numbers, at a step of a region that draws its order. -/
theorem step_append_ints {w : World} {ops : Array Oper} {o : Oper} {a : Act} {K : Act → World → Prop} {Q : Exit → Act → World → Prop} {E : Prop} (hgd : o.guard = none) (s x : Operand)
    (ho : o.op = .call { callee := .builtin .append, args := #[s, x], argTypes := #[24, 24] })
    (v : Value) (l : List Int) (hs : a.eval s = v) (hown : Ir.Own w v l) (A : Option Addr) (m c : Nat) (news : List Int) (hx : a.eval x = .slice A m c) (hm : m = news.length) (hnil : A = none → c = 0) (hseen : Ir.Seen w A news)
    (hb : l.length + news.length ≤ 1073741824)
    (h : ∀ v' w', Ir.Own w' v' (l ++ news) → w.grownBy w' v.ownBlock → (v'.ownBlock = v.ownBlock ∨ v'.ownBlock = some w.heap.size) → K (a.put o.dst v') w') :
    if Region.wanted o (yielded ops a.tmps) = true then Oper.wp Tryz.prog o a w K Q else E := by
  have hw : Region.wanted o (yielded ops a.tmps) = true := by simp [Region.wanted, hgd]
  rw [if_pos hw]
  subst hm
  obtain ⟨i0, hi, hz0, hz1, hz2⟩ := info_parts info_i64
  cases A with
  | none =>
    have hn : news = [] := by
      cases news with
      | nil => rfl
      | cons y ys =>
        obtain ⟨g, f, e, _⟩ := hseen (by simp)
        cases e
    subst hn
    obtain rfl := hnil rfl
    have hr := run_append_owned_none (P := Tryz.prog) (w := w) 0 24 o.type 3 i0 1 Tryz.underlying24 hi v l.length (ints l) hown
    unfold Oper.wp execOp
    simp only [ho, resolve, invoke, builtin, Sem.run_bind, Sem.run_pure, Result.andThen_ok, List.map_toArray, List.map_cons, List.map_nil, hs, hx, List.length_nil, hr]
    exact h v w (by rw [List.append_nil]; exact hown) (World.grownBy.refl w _) (.inl rfl)
  | some ad =>
    obtain ⟨v', w', hr, h2, h3, h4, h5⟩ := run_append_own_at (P := Tryz.prog) w 0 24 o.type 3 i0 (.int .i64 0) 1 8 Tryz.underlying24 hi hz0 hz1 hz2 rfl (by decide) v l.length (ints l) hown ad news.length c (ints news) (by rw [ints_length, Nat.mul_one]) (fun j u hu => by
      by_cases hne : news = []
      · subst hne; cases hu
      · obtain ⟨g, f, e, _, hc⟩ := hseen hne
        obtain rfl := Option.some.inj e
        rw [add_at]
        exact hc j u hu) (ints_one news) (by unfold maxLen; omega) (by omega) (Nat.zero_le _)
    unfold Oper.wp execOp
    simp only [ho, resolve, invoke, builtin, Sem.run_bind, Sem.run_pure, Result.andThen_ok, List.map_toArray, List.map_cons, List.map_nil, hs, hx, hr]
    refine h v' w' ?_ h3 h5
    unfold Own ints at *
    rw [List.length_append, List.map_append]
    exact h2
end Go.Proofs.YtoagghileebokaaGreatDoor.Ir
namespace Go.Proofs.YtoagghileebokaaGreatDoor.Sp
open Go.RowKit Go.Proofs.YtoagghileebokaaGreatDoor.Ar Go.Proofs.YtoagghileebokaaGreatDoor.Sh Go.Sort
open Go.Proofs.YtoagghileebokaaGreatDoor.Hd (Hd Fields cells4 free4 fitL)
open Go.Proofs.YtoagghileebokaaGreatDoor.Tb (Ty Tab)
open Go.Proofs.YtoagghileebokaaGreatDoor.Wd (Table)
set_option linter.unusedVariables false
theorem objAt_mem {g : Int} : ∀ {A cs P Q : List Cel} {c : Cel}, objAt A cs g = some (P, c, Q) → c ∈ cs ∧ c.a = g ∧ c.h.tg = 1
  | _, [], _, _, _, h => by cases h
  | A, x :: cs, P, Q, c, h => by
    unfold objAt at h
    split at h
    · rename_i hc
      injection h with h
      injection h with h1 h2
      injection h2 with h2 h3
      subst h2
      exact ⟨List.mem_cons_self, hc.1, hc.2⟩
    · obtain ⟨h1, h2⟩ := objAt_mem h
      exact ⟨List.mem_cons_of_mem _ h1, h2⟩
theorem slots_obj {ws : List Int} {l : List Ty} {cs : List Cel} {g : Int} (h : 0 < slotsV ws l cs g) : ∃ c ∈ cs, c.a = g ∧ c.h.tg = 1 ∧ slotsV ws l cs g = ofS ws l g := by
  unfold slotsV at *
  cases ho : objAt [] cs g with
  | none => rw [ho] at h; simp at h
  | some t =>
    obtain ⟨P, c, Q⟩ := t
    obtain ⟨h1, h2, h3⟩ := objAt_mem ho
    exact ⟨c, h1, h2, h3, by simp⟩
section
variable {w x : World} {s : Ids} {r : Nat} {B : Option Addr} {d : Nat} {l : List Ty}

set_option maxRecDepth 100000 in
set_option maxHeartbeats 16000000 in
theorem does_ok (h : Twin w x s r B d l) (hT : Tb.Seen w B l) (st : Stp) (hok : st.ok) (hu : 0 ≤ st.u ∧ st.u < 18446744073709551616) (gs : List Int) (hgl : gs.length = st.len) (hgs : Ir.Seen w st.A gs) (hgI : ∀ g ∈ gs, I64 g) (hgn : st.A = none → st.cap = 0) (hgm : gs.length ≤ 300)
    (hJ : ∀ y, Twin w y s r B d l → Calls Tryz.prog 85 #[.pointer (some ⟨s.sp, 0, none⟩), .pointer (some ⟨r, 0, none⟩), .agg #[.int .i64 st.d, .int .i64 st.g, .int .i64 st.i, .int .i64 st.n, .int .u64 st.u, .slice st.A st.len st.cap]] y fun e z => e = .returned (.bool true) ∧ Twin w z s r B d l) :
    Calls Tryz.prog 47 #[.pointer (some ⟨s.sp, 0, none⟩), .pointer (some ⟨r, 0, none⟩), .agg #[.int .i64 st.d, .int .i64 st.g, .int .i64 st.i, .int .i64 st.n, .int .u64 st.u, .slice st.A st.len st.cap]] x fun e y => e = .returned (.bool true) ∧ Twin w y s r B d l := by
  obtain ⟨ws, bs, cs, h0⟩ := h
  obtain ⟨d0, d1, d2, d3, _⟩ := hok
  obtain ⟨sd, sg, si, sn, su, sA, slen, scap⟩ := st
  unfold I64 at d0 d1 d2 d3
  simp only at *
  subst hgl
  have hf := fit_of h0.mine hT
  have HTs := Lib.hid hT
  have hb := Has.new x 110 [.int .i64 sd, .int .i64 sg, .int .i64 si, .int .i64 sn, .int .u64 su, .slice sA gs.length scap]
  have hk : Kept [] x (x.alloc (.cells #[.int .i64 sd, .int .i64 sg, .int .i64 si, .int .i64 sn, .int .u64 su, .slice sA gs.length scap] 110)) := (Kept.refl [] x).alloc _
  have h1 := h0.keep0 hk
  have HF := Lib.hid hf
  have HGs := Lib.hid hgs
  have HGI := Lib.hid hgI
  clear hf h0 hk hT hgs hgI
  obtain ⟨x1, hx1⟩ : ∃ x1, x.alloc (.cells #[.int .i64 sd, .int .i64 sg, .int .i64 si, .int .i64 sn, .int .u64 su, .slice sA gs.length scap] 110) = x1 := ⟨_, rfl⟩
  have hb1 : Has x1 x.heap.size 110 [.int .i64 sd, .int .i64 sg, .int .i64 si, .int .i64 sn, .int .u64 su, .slice sA gs.length scap] := by rw [← hx1]; exact hb
  rw [hx1] at h1
  have q0 := hb1.cell 0
  have q1 := hb1.cell 1
  have q2 := hb1.cell 2
  have q3 := hb1.cell 3
  have q4 := hb1.cell 4
  have q5 := hb1.cell 5
  simp only [List.getElem?_cons_zero, List.getElem?_cons_succ] at q0 q1 q2 q3 q4 q5
  have HCl : Hid (∀ z : World, z.heap[x.heap.size]? = x1.heap[x.heap.size]? → z.cell? ⟨x.heap.size, 1, none⟩ = some (.int .i64 sg) ∧ z.cell? ⟨x.heap.size, 2, none⟩ = some (.int .i64 si) ∧ z.cell? ⟨x.heap.size, 3, none⟩ = some (.int .i64 sn) ∧ z.cell? ⟨x.heap.size, 4, none⟩ = some (.int .u64 su) ∧ z.cell? ⟨x.heap.size, 5, none⟩ = some (.slice sA gs.length scap)) := Lib.hid fun z hz =>
    ⟨(World.cell?_of_block (w := x1) hz).trans q1, (World.cell?_of_block (w := x1) hz).trans q2, (World.cell?_of_block (w := x1) hz).trans q3, (World.cell?_of_block (w := x1) hz).trans q4, (World.cell?_of_block (w := x1) hz).trans q5⟩
  have HLt : Hid (∀ z : World, z.heap[x.heap.size]? = x1.heap[x.heap.size]? → x.heap.size < z.heap.size) := Lib.hid fun z hz => by
    have : Has z x.heap.size 110 [.int .i64 sd, .int .i64 sg, .int .i64 si, .int .i64 sn, .int .u64 su, .slice sA gs.length scap] := hz.trans hb1
    exact this.lt
  have HNb : Hid (∀ z : World, ∀ {wp bp cp wd}, Duo w z s r B d l wp bp cp wd → z.heap[x.heap.size]? = x1.heap[x.heap.size]? → x.heap.size ∉ r :: s.turn) := Lib.hid fun z wp bp cp wd hz hz5 hm => by
    have h5 : Has z x.heap.size 110 [.int .i64 sd, .int .i64 sg, .int .i64 si, .int .i64 sn, .int .u64 su, .slice sA gs.length scap] := hz5.trans hb1
    obtain ⟨q, cap, hd, _⟩ := hz.doc
    rcases List.mem_cons.1 hm with hm | hm
    · exact Has.block_type h5 hd.head (by decide) hm
    · exact hz.mine.spc.beside h5 (by decide) (by decide) (by decide) hm
  have H0 := Lib.hid h1
  clear hb hb1 h1
  go_enter Tryz.func47, Tryz.ntmps47
  rw [← hx1] at q0
  have HJ := Lib.hid hJ
  clear hJ
  have hq0 := q0
  rw [hx1] at q0
  by_cases e0 : sd = 0
  · subst e0
    have hb0 : ((0 : Int) == 0) = true := rfl
    clear HJ
    go_wp2_with fail
    try simp only [hx1]
    clear hx1
    generalize x.heap.size = b5 at *
    have CP : Hid (∀ (y0 y : World) (wd : List Int), (Duo w y0 s r B d l ws bs cs wd ∧ y0.heap[b5]? = x1.heap[b5]?) → Kept [] y0 y → Calls Tryz.prog 28 #[.pointer (some ⟨s.sp, 0, none⟩), .int .i64 sg, .int .i64 si, .int .i64 sn] y fun e z => e = .returned (.int .i64 (putE ws l cs sg si sn)) ∧ ∃ bp cp, Hid (Duo w z s r B d l (putX ws l cs sg si sn) bp cp wd ∧ z.heap[b5]? = x1.heap[b5]?) ∧ z.cell? ⟨b5, 1, none⟩ = some (.int .i64 sg) ∧ z.cell? ⟨b5, 2, none⟩ = some (.int .i64 si) ∧ z.cell? ⟨b5, 3, none⟩ = some (.int .i64 sn)) := Lib.hid fun y0 y wd hq k => by
      have hy : y.heap[b5]? = x1.heap[b5]? := (k.old b5 (HLt.out y0 hq.2) (by simp)).trans hq.2
      refine (duo_put (hq.1.keep0 k)  sg si sn d1.1 d1.2 d2.1 d2.2).mono ?_
      rintro e z ⟨he, ⟨bp, cp, hz⟩, hk⟩
      have hz5 : z.heap[b5]? = x1.heap[b5]? := (hk.old b5 (HLt.out y hy) (HNb.out y (hq.1.keep0 k) hy)).trans hy
      exact ⟨he, bp, cp, Lib.hid ⟨hz, hz5⟩, (HCl.out _ hz5).1, (HCl.out _ hz5).2.1, (HCl.out _ hz5).2.2.1⟩
    have CD : Hid (∀ (y0 y : World) (wp : List Int) (bp : List Bool) (cp : List Cel), (Duo w y0 s r B d l wp bp cp ws ∧ y0.heap[b5]? = x1.heap[b5]?) → Kept [] y0 y → Calls Tryz.prog 77 #[.pointer (some ⟨r, 0, none⟩), .int .i64 sg, .int .i64 si, .int .i64 sn] y fun e z => e = .returned (.int .i64 (putE ws l cs sg si sn)) ∧ Hid (Duo w z s r B d l wp bp cp (putX ws l cs sg si sn) ∧ z.heap[b5]? = x1.heap[b5]?) ∧ z.cell? ⟨b5, 1, none⟩ = some (.int .i64 sg) ∧ z.cell? ⟨b5, 2, none⟩ = some (.int .i64 si) ∧ z.cell? ⟨b5, 3, none⟩ = some (.int .i64 sn)) := Lib.hid fun y0 y wp bp cp hq k => by
      have hy : y.heap[b5]? = x1.heap[b5]? := (k.old b5 (HLt.out y0 hq.2) (by simp)).trans hq.2
      refine (duo_sput (hq.1.keep0 k) HF.out  sg si sn d1.1 d1.2 d2.1 d2.2).mono ?_
      rintro e z ⟨he, hz, hk⟩
      have hz5 : z.heap[b5]? = x1.heap[b5]? := (hk.old b5 (HLt.out y hy) (HNb.out y (hq.1.keep0 k) hy)).trans hy
      exact ⟨he, Lib.hid ⟨hz, hz5⟩, (HCl.out _ hz5).1, (HCl.out _ hz5).2.1, (HCl.out _ hz5).2.2.1⟩
    generalize putE ws l cs sg si sn = er at *
    generalize putX ws l cs sg si sn = W1 at *
    go_region_held3 (fun y => y.cell? ⟨b5, 1, none⟩ = some (.int .i64 sg) ∧ y.cell? ⟨b5, 2, none⟩ = some (.int .i64 si) ∧ y.cell? ⟨b5, 3, none⟩ = some (.int .i64 sn)) (go_keep)
      (first
        | (go_at_call 28; (first | (refine (CP.out _ _ _ hD1.out ?_).mono ?_; (first | exact Kept.refl _ _ | exact (Kept.refl _ _).drew | exact (Kept.refl _ _).drewN _); rintro e z2 ⟨rfl, bp2, cp2, hF2, w1, w2, w3⟩) | (refine (CP.out _ _ _ ⟨H0.out, rfl⟩ ?_).mono ?_; (first | exact Kept.refl _ _ | exact (Kept.refl _ _).drew | exact (Kept.refl _ _).drewN _); rintro e z1 ⟨rfl, bp1, cp1, hP1, w1, w2, w3⟩)))
        | (go_at_call 77; (first | (refine (CD.out _ _ _ _ _ hP1.out ?_).mono ?_; (first | exact Kept.refl _ _ | exact (Kept.refl _ _).drew | exact (Kept.refl _ _).drewN _); rintro e z2 ⟨rfl, hF3, w1, w2, w3⟩) | (refine (CD.out _ _ _ _ _ ⟨H0.out, rfl⟩ ?_).mono ?_; (first | exact Kept.refl _ _ | exact (Kept.refl _ _).drew | exact (Kept.refl _ _).drewN _); rintro e z1 ⟨rfl, hD1, w1, w2, w3⟩))))
    all_goals
      clear w1 w2 w3
      go_wp2_with fail
      go_ret
      first
      | exact ⟨rfl, _, _, _, hF2.out.1⟩
      | exact ⟨rfl, _, _, _, hF3.out.1⟩
  · by_cases e1 : sd = 1
    · subst e1
      have hb0 : ((1 : Int) == 0) = false := rfl
      have hb1 : ((1 : Int) == 1) = true := rfl
      clear HJ e0
      go_wp2_with fail
      clear hx1
      generalize x.heap.size = b5 at *
      have CP : Hid (∀ (y0 y : World) (wd : List Int), (Duo w y0 s r B d l ws bs cs wd ∧ y0.heap[b5]? = x1.heap[b5]?) → Kept [] y0 y → Calls Tryz.prog 78 #[.pointer (some ⟨s.sp, 0, none⟩), .int .i64 sg] y fun e z => e = .returned (.int .i64 (dropE cs sg)) ∧ ∃ bp cp, Hid (Duo w z s r B d l (dropX ws cs sg) bp cp wd ∧ z.heap[b5]? = x1.heap[b5]?) ∧ z.cell? ⟨b5, 1, none⟩ = some (.int .i64 sg)) := Lib.hid fun y0 y wd hq k => by
        have hy : y.heap[b5]? = x1.heap[b5]? := (k.old b5 (HLt.out y0 hq.2) (by simp)).trans hq.2
        refine (duo_drop (hq.1.keep0 k)  sg d1.1 d1.2).mono ?_
        rintro e z ⟨he, ⟨bp, cp, hz⟩, hk⟩
        have hz5 : z.heap[b5]? = x1.heap[b5]? := (hk.old b5 (HLt.out y hy) (HNb.out y (hq.1.keep0 k) hy)).trans hy
        exact ⟨he, bp, cp, Lib.hid ⟨hz, hz5⟩, (HCl.out _ hz5).1⟩
      have CD : Hid (∀ (y0 y : World) (wp : List Int) (bp : List Bool) (cp : List Cel), (Duo w y0 s r B d l wp bp cp ws ∧ y0.heap[b5]? = x1.heap[b5]?) → Kept [] y0 y → Calls Tryz.prog 79 #[.pointer (some ⟨r, 0, none⟩), .int .i64 sg] y fun e z => e = .returned (.int .i64 (dropE cs sg)) ∧ Hid (Duo w z s r B d l wp bp cp (dropX ws cs sg) ∧ z.heap[b5]? = x1.heap[b5]?) ∧ z.cell? ⟨b5, 1, none⟩ = some (.int .i64 sg)) := Lib.hid fun y0 y wp bp cp hq k => by
        have hy : y.heap[b5]? = x1.heap[b5]? := (k.old b5 (HLt.out y0 hq.2) (by simp)).trans hq.2
        refine (duo_sdrop (hq.1.keep0 k) HF.out  sg d1.1 d1.2).mono ?_
        rintro e z ⟨he, hz, hk⟩
        have hz5 : z.heap[b5]? = x1.heap[b5]? := (hk.old b5 (HLt.out y hy) (HNb.out y (hq.1.keep0 k) hy)).trans hy
        exact ⟨he, Lib.hid ⟨hz, hz5⟩, (HCl.out _ hz5).1⟩
      generalize dropE cs sg = er at *
      generalize dropX ws cs sg = W1 at *
      go_wp2_with fail
      go_region_held3 (fun y => y.cell? ⟨b5, 1, none⟩ = some (.int .i64 sg)) (go_keep)
        (first
          | (go_at_call 78; (first | (refine (CP.out _ _ _ hD1.out ?_).mono ?_; (first | exact Kept.refl _ _ | exact (Kept.refl _ _).drew | exact (Kept.refl _ _).drewN _); rintro e z2 ⟨rfl, bp2, cp2, hF2, w1⟩) | (refine (CP.out _ _ _ ⟨H0.out, rfl⟩ ?_).mono ?_; (first | exact Kept.refl _ _ | exact (Kept.refl _ _).drew | exact (Kept.refl _ _).drewN _); rintro e z1 ⟨rfl, bp1, cp1, hP1, w1⟩)))
          | (go_at_call 79; (first | (refine (CD.out _ _ _ _ _ hP1.out ?_).mono ?_; (first | exact Kept.refl _ _ | exact (Kept.refl _ _).drew | exact (Kept.refl _ _).drewN _); rintro e z2 ⟨rfl, hF3, w1⟩) | (refine (CD.out _ _ _ _ _ ⟨H0.out, rfl⟩ ?_).mono ?_; (first | exact Kept.refl _ _ | exact (Kept.refl _ _).drew | exact (Kept.refl _ _).drewN _); rintro e z1 ⟨rfl, hD1, w1⟩))))
      all_goals
        clear w1
        go_wp2_with fail
        go_ret
        first
        | exact ⟨rfl, _, _, _, hF2.out.1⟩
        | exact ⟨rfl, _, _, _, hF3.out.1⟩
    · by_cases e2 : sd = 2
      · subst e2
        have hb0 : ((2 : Int) == 0) = false := rfl
        have hb1 : ((2 : Int) == 1) = false := rfl
        have hb2 : ((2 : Int) == 2) = true := rfl
        clear HJ e0 e1
        obtain ⟨q, cap, hd, hq⟩ := H0.out.doc
        have HSl := Lib.hid (slots_ok hd (HF.out.keep0 H0.out.mine.kept) sg)
        clear hd hq
        go_wp2_with fail
        clear hx1
        generalize x.heap.size = b5 at *
        refine HSl.out.mono ?_
        rintro e x2 ⟨rfl, k2⟩
        have hx2 : x2.heap[b5]? = x1.heap[b5]? := k2.old b5 (HLt.out x1 rfl) (by simp)
        obtain ⟨w1, w2, w3, w4, w5⟩ := HCl.out x2 hx2
        have H2 := Lib.hid (H0.out.keep0 k2)
        have HX2 := Lib.hid hx2
        have HOb := Lib.hid (fun (h : 0 < slotsV ws l cs sg) => slots_obj (ws := ws) (l := l) h)
        clear k2 hx2 HSl H0 q0 q1 q2 q3 q4 q5
        obtain ⟨nv, hnv⟩ : ∃ nv, nv = slotsV ws l cs sg := ⟨_, rfl⟩
        rw [← hnv] at HOb ⊢
        have HNv := Lib.hid hnv
        clear hnv
        by_cases hn0 : sn < 0
        · clear HOb
          go_wp2_with fail
          go_ret
          exact ⟨rfl, ws, bs, cs, H2.out⟩
        · by_cases hn1 : nv ≤ sn
          · clear HOb
            go_wp2_with fail
            go_ret
            exact ⟨rfl, ws, bs, cs, H2.out⟩
          · obtain ⟨c, hc, hca, hct, hcs⟩ := HOb.out (by omega)
            have hob := obj_of H2.out.mine.snd.tiled (Int.le_refl _) (Int.le_refl _) hc hct
            have hfs := facts_size HF.out.ok hob.1
            rw [hob.2] at hfs
            subst hca
            have hsn : sn < ofS ws l c.a := by omega
            have hL : ws.length ≤ 65536 := HF.out.short
            obtain ⟨f1, f2, f3, f4⟩ := hfs
            have CAr : Hid (∀ y, Kept [] x2 y → Calls Tryz.prog 71 #[.pointer (some ⟨s.sp, 0, none⟩)] y fun e z => e = .returned (.pointer (some ⟨s.ap, 0, none⟩)) ∧ y = z) := Lib.hid fun y k => arena_ok (H2.out.keep0 k).mine.spc
            have CTb : Hid (∀ y, Kept [] x2 y → Calls Tryz.prog 9 #[.pointer (some ⟨s.sp, 0, none⟩)] y fun e z => e = .returned (.pointer (some ⟨s.tp, 0, none⟩)) ∧ y = z) := Lib.hid fun y k => table_ok (H2.out.keep0 k).mine.spc
            have CV : Hid (∀ y, Kept [] x2 y → Calls Tryz.prog 81 #[.pointer (some ⟨s.ap, 0, none⟩), .pointer (some ⟨s.tp, 0, none⟩), .int .i64 c.a] y fun e z => ∃ v, e = .returned (.tuple #[.pointer (some ⟨v, 0, none⟩), .int .i64 0]) ∧ Hid (Sh.View z v s.ap c.a (hdH ws c.a) (ofT ws l c.a) (ofS ws l c.a) ∧ Kept [] x2 z) ∧ z.cell? ⟨b5, 1, none⟩ = some (.int .i64 c.a)) := Lib.hid fun y k => by
              refine (duo_view (H2.out.keep0 k) c.a (by omega) (by omega) hob.1).mono ?_
              rintro e z ⟨v, he, hv, hk⟩
              exact ⟨v, he, Lib.hid ⟨hv, k.trans hk⟩, (HCl.out z (((k.trans hk).old b5 (HLt.out x2 HX2.out) (by simp)).trans HX2.out)).1⟩
            have HSt : Hid (∀ z v, Kept [] x2 z → Sh.View z v s.ap c.a (hdH ws c.a) (ofT ws l c.a) (ofS ws l c.a) → Calls Tryz.prog 82 #[.pointer (some ⟨v, 0, none⟩), .int .i64 sn, .int .u64 su] z fun e y => e = .returned (.int .i64 0) ∧ Duo w y s r B d l (ws.set (slotI c.a sn) su) bs cs ws ∧ Kept (r :: s.turn) z y) := Lib.hid fun z v k hv => duo_store (H2.out.keep0 k) hc hct hv sn su (by omega) hsn hu.1 hu.2
            have hx0 : Kept [] x2 x2 := Kept.refl _ _
            clear hob hc hct hcs HOb HF
            generalize ofS ws l c.a = sv at *
            generalize ofT ws l c.a = tv at *
            generalize hdH ws c.a = hv at *
            obtain ⟨gn, hgn⟩ := Int.eq_ofNat_of_zero_le f1
            obtain ⟨nn, hnn⟩ := Int.eq_ofNat_of_zero_le (show 0 ≤ sn by omega)
            have hI : Hid (slotI c.a sn = 2 * gn + 1 + nn) := Lib.hid (by unfold slotI; omega)
            have hIl : 2 * gn + 1 + nn < ws.length := by omega
            generalize slotI c.a sn = I at *
            generalize c.h.sz = zv at *
            generalize c.a = ca at *
            subst hgn hnn
            go_wp2_with fail
            go_region_held3 (fun y => y.cell? ⟨b5, 1, none⟩ = some (.int .i64 (gn : Int))) (go_keep)
              (first
                | (go_at_call 71; refine (CAr.out _ ?_).mono ?_; (first | exact hx0.drew | exact hx0 | exact hx0.drewN _); rintro e z ⟨rfl, rfl⟩)
                | (go_at_call 9; refine (CTb.out _ ?_).mono ?_; (first | exact hx0.drew | exact hx0 | exact hx0.drewN _); rintro e z ⟨rfl, rfl⟩)
                | (go_at_call 81; refine (CV.out _ ?_).mono ?_; (first | exact hx0.drew | exact hx0 | exact hx0.drewN _); rintro e z1 ⟨v, rfl, hvv, r1⟩))
            all_goals
              have hkz := hvv.out.2
              have HSz := Lib.hid (HSt.out z1 v hkz hvv.out.1)
              have hz5 : z1.heap[b5]? = x1.heap[b5]? := (hkz.old b5 (HLt.out x2 HX2.out) (by simp)).trans HX2.out
              clear w1 w2 w3 w4 w5 r1
              obtain ⟨w1, w2, w3, w4, w5⟩ := HCl.out z1 hz5
              have HZ5 := Lib.hid hz5
              have HKz := Lib.hid hkz
              clear hkz hvv hz5 HSt CAr CTb CV hx0
              go_wp2_with fail
              refine HSz.out.mono ?_
              rintro e z2 ⟨rfl, hD, kd⟩
              have hy5 : z2.heap[b5]? = x1.heap[b5]? := (kd.old b5 (HLt.out z1 HZ5.out) (HNb.out z1 (H2.out.keep0 HKz.out) HZ5.out)).trans HZ5.out
              clear w1 w2 w3 w4 w5
              obtain ⟨w1, w2, w3, w4, w5⟩ := HCl.out z2 hy5
              obtain ⟨q2, cap2, hd2, hq2⟩ := hD.doc
              obtain ⟨c0, c1, f0⟩ := hd2.cells
              have hne : ws ≠ [] := by rintro rfl; simp at hIl
              have HS := Lib.hid hd2.row.seen
              have HDd := Lib.hid hd2
              have HDu := Lib.hid hD
              have HQ2 := Lib.hid hq2
              have HNe := Lib.hid hne
              have HY5 := Lib.hid hy5
              clear kd hy5 hD hd2 hq2 hne HSz
              obtain ⟨L, hLL⟩ : ∃ L, L = ws.length := ⟨_, rfl⟩
              rw [← hLL] at hL hIl c0
              have HLL := Lib.hid hLL
              clear hLL
              go_wp2_with (at_builtin; (refine append_words rfl (.const (.slice none 0 0)) (.tmp 86) rfl (.slice none 0 0) [] rfl (Ar.Own.nil _) (some ⟨q2, 0, none⟩) L cap2 ws rfl HLL.out.symm (fun h => by cases h) HS.out (show 0 + L ≤ 1073741824 by omega) ?_))
              intro v2 x5 hO2 hG2 hB2
              have hK2 : Kept [] z2 x5 := own_grown (Kept.refl [] z2) (.inl rfl) hG2
              have hF2 := own_fresh (Kept.refl [] z2) (.inl rfl) hB2
              obtain ⟨gb, cap3, rfl, hcap, hlay2⟩ := lay_of_own hO2 HNe.out
              have hgb : z2.heap.size ≤ gb := by
                rcases hF2 with h | ⟨b, h, hle⟩
                · cases h
                · injection h with h
                  rw [show gb = b from h]; exact hle
              rw [← HLL.out] at hcap ⊢
              have hD5 := HDd.out.keep0 hK2
              have hrq : r ≠ gb := by have := HDd.out.head.lt; omega
              have hD6 := hD5.head.beside ⟨gb, 2 * gn + 1 + nn, none⟩ hrq (.int .u64 su)
              have hc := hlay2.cell (2 * gn + 1 + nn) (by rw [← HLL.out]; omega)
              have hfz := hlay2.free (2 * gn + 1 + nn)
              clear c0 c1 f0
              have c0 := hD6.cell 0
              have f0 := hD6.free 0
              have HFin : Hid (Duo w ((x5.setCell ⟨gb, 2 * gn + 1 + nn, none⟩ (.int .u64 su)).setCell ⟨r, 0, none⟩ (.slice (some ⟨gb, 0, none⟩) L cap3)) s r B d l (ws.set I su) bs cs (ws.set I su)) := Lib.hid (by
                refine HDu.out.theirs HQ2.out ⟨gb, cap3, ⟨?_, ?_, ?_⟩, .inr hgb, ((hK2.none _).setCell _ _ (.inr hgb)).setCell _ _ (.inl (by simp))⟩
                · rw [List.length_set, ← HLL.out]
                  exact hD6.put 0 _
                · rw [hI.out]
                  obtain ⟨rest, hr⟩ := hlay2.put (2 * gn + 1 + nn) su (by rw [← HLL.out]; omega)
                  exact ⟨rest, hr.beside _ (Ne.symm hrq) _⟩
                · rw [List.length_set, ← HLL.out]; exact hcap)
              have hi0 : (0 : Int) ≤ 2 * (gn : Int) + 1 + (nn : Int) := by omega
              have hi1 : 2 * (gn : Int) + 1 + (nn : Int) < (L : Int) := by omega
              have hi2 : (2 * (gn : Int) + 1 + (nn : Int)).toNat = 2 * gn + 1 + nn := by omega
              clear w1 w2 w3 w4 w5
              obtain ⟨w1, w2, w3, w4, w5⟩ := HCl.out x5 ((hK2.old b5 (HLt.out z2 HY5.out) (by simp)).trans HY5.out)
              clear hO2 hG2 hB2 hK2 hF2 hlay2 hgb hD5 hD6 hcap HS HDd HDu HQ2
              go_wp2_with fail
              go_ret
              exact ⟨rfl, _, bs, cs, HFin.out⟩
      · by_cases e3 : sd = 3
        · subst e3
          have hb0 : ((3 : Int) == 0) = false := rfl
          have hb1 : ((3 : Int) == 1) = false := rfl
          have hb2 : ((3 : Int) == 2) = false := rfl
          have hb3 : ((3 : Int) == 3) = true := rfl
          clear HJ e0 e1 e2
          go_wp2_with fail
          clear hx1
          generalize x.heap.size = b5 at *
          have HIr : Hid (∀ g ∈ gs, -9223372036854775808 ≤ g ∧ g ≤ 9223372036854775807) := Lib.hid fun g hg => HGI.out g hg
          have HSeen : Hid (∀ (y0 y : World) (wp : List Int) (bp : List Bool) (cp : List Cel) (wd : List Int), (Duo w y0 s r B d l wp bp cp wd ∧ y0.heap[b5]? = x1.heap[b5]?) → Kept [] y0 y → Ir.Seen y sA gs) := Lib.hid fun y0 y wp bp cp wd hq k => HGs.out.keep0 (hq.1.mine.kept.trans k)
          have HApp : Hid (∀ (y0 y x7 : World) (v7 : Value) (wp : List Int) (bp : List Bool) (cp : List Cel) (wd : List Int), (Duo w y0 s r B d l wp bp cp wd ∧ y0.heap[b5]? = x1.heap[b5]?) → Kept [] y0 y → Ir.Own x7 v7 ([] ++ gs) → y.grownBy x7 (Value.slice none 0 0).ownBlock → Duo w x7 s r B d l wp bp cp wd ∧ x7.heap[b5]? = x1.heap[b5]? ∧ Ir.Own x7 v7 gs) := Lib.hid fun y0 y x7 v7 wp bp cp wd hq k o g => by
            have kk : Kept [] y0 x7 := own_grown k (.inl rfl) g
            rw [List.nil_append] at o
            exact ⟨hq.1.keep0 kk, (kk.old b5 (HLt.out y0 hq.2) (by simp)).trans hq.2, o⟩
          have CP : Hid (∀ (y0 y : World) (wd : List Int) (v : Value), (Duo w y0 s r B d l ws bs cs wd ∧ y0.heap[b5]? = x1.heap[b5]? ∧ Ir.Own y0 v gs) → Kept [] y0 y → Calls Tryz.prog 83 #[.pointer (some ⟨s.sp, 0, none⟩), v] y fun e z => e = .returned (.int .i64 (settleE ws l gs)) ∧ ∃ bp cp, Hid (Duo w z s r B d l (settleX ws l gs) bp cp wd ∧ z.heap[b5]? = x1.heap[b5]?) ∧ z.cell? ⟨b5, 5, none⟩ = some (.slice sA gs.length scap)) := Lib.hid fun y0 y wd v hq k => by
            have hy : y.heap[b5]? = x1.heap[b5]? := (k.old b5 (HLt.out y0 hq.2.1) (by simp)).trans hq.2.1
            obtain ⟨A, c, rfl, hbk⟩ := Ir.back_own (Kept.refl [] _) (hq.2.2.keep0 k)
            refine (duo_settle (hq.1.keep0 k) A gs c hbk.2.1 HIr.out (by omega)).mono ?_
            rintro e z ⟨he, ⟨bp, cp, hz⟩, hk⟩
            have hz5 : z.heap[b5]? = x1.heap[b5]? := (hk.old b5 (HLt.out y hy) (HNb.out y (hq.1.keep0 k) hy)).trans hy
            exact ⟨he, bp, cp, Lib.hid ⟨hz, hz5⟩, (HCl.out z hz5).2.2.2.2⟩
          have CD : Hid (∀ (y0 y : World) (wp : List Int) (bp : List Bool) (cp : List Cel), (Duo w y0 s r B d l wp bp cp ws ∧ y0.heap[b5]? = x1.heap[b5]?) → Kept [] y0 y → Calls Tryz.prog 84 #[.pointer (some ⟨r, 0, none⟩), .slice sA gs.length scap] y fun e z => e = .returned (.int .i64 (settleE ws l gs)) ∧ Hid (Duo w z s r B d l wp bp cp (settleX ws l gs) ∧ z.heap[b5]? = x1.heap[b5]?) ∧ Hid (∀ v, Ir.Own y0 v gs → Ir.Own z v gs) ∧ z.cell? ⟨b5, 5, none⟩ = some (.slice sA gs.length scap)) := Lib.hid fun y0 y wp bp cp hq k => by
            have hy : y.heap[b5]? = x1.heap[b5]? := (k.old b5 (HLt.out y0 hq.2) (by simp)).trans hq.2
            have hD := hq.1.keep0 k
            refine (duo_ssettle hD HF.out sA gs scap (HGs.out.keep0 hD.mine.kept) (by omega)).mono ?_
            rintro e z ⟨he, hz, hk⟩
            have hz5 : z.heap[b5]? = x1.heap[b5]? := (hk.old b5 (HLt.out y hy) (HNb.out y hD hy)).trans hy
            refine ⟨he, Lib.hid ⟨hz, hz5⟩, Lib.hid fun v hv => ?_, (HCl.out z hz5).2.2.2.2⟩
            refine (hv.keep0 k).kept hk fun g hg e => ?_
            obtain ⟨m, a⟩ := hD.mine.spc.ar
            obtain ⟨vs, bv, _⟩ := hD.mine.spc.bv
            obtain ⟨q, cap, hd, _⟩ := hD.doc
            simp [Ids.turn] at hg
            rcases hg with rfl | rfl | rfl | rfl
            · exact own_apart (hv.keep0 k) hd.head (by decide) e
            · exact own_apart (hv.keep0 k) a.head (by decide) e
            · exact own_apart (hv.keep0 k) a.row (by decide) e
            · exact own_apart (hv.keep0 k) bv.row (by decide) e
          generalize settleE ws l gs = er at *
          generalize settleX ws l gs = W1 at *
          go_region_held3 (fun y => y.cell? ⟨b5, 5, none⟩ = some (.slice sA gs.length scap)) (go_keep)
            (first
              | (go_at_call 83; (first | (refine (CP.out _ _ _ _ h8.out ?_).mono ?_; (first | exact Kept.refl _ _ | exact (Kept.refl _ _).drew | exact (Kept.refl _ _).drewN _); rintro e z2 ⟨rfl, bp2, cp2, hP2, w5⟩) | (refine (CP.out _ _ _ _ h7.out ?_).mono ?_; (first | exact Kept.refl _ _ | exact (Kept.refl _ _).drew | exact (Kept.refl _ _).drewN _); rintro e z2 ⟨rfl, bp2, cp2, hP2, w5⟩)))
              | (go_at_call 84; (first | (refine (CD.out _ _ _ _ _ hP2.out ?_).mono ?_; (first | exact Kept.refl _ _ | exact (Kept.refl _ _).drew | exact (Kept.refl _ _).drewN _); rintro e z3 ⟨rfl, hF3, hOw, w5⟩) | (refine (CD.out _ _ _ _ _ ⟨h7.out.1, h7.out.2.1⟩ ?_).mono ?_; (first | exact Kept.refl _ _ | exact (Kept.refl _ _).drew | exact (Kept.refl _ _).drewN _); rintro e z1 ⟨rfl, hD1, hOw, w5⟩; have h8 := Lib.hid (And.intro hD1.out.1 (And.intro hD1.out.2 (hOw.out v7 h7.out.2.2)))) | (refine (CD.out _ _ _ _ _ ⟨H0.out, rfl⟩ ?_).mono ?_; (first | exact Kept.refl _ _ | exact (Kept.refl _ _).drew | exact (Kept.refl _ _).drewN _); rintro e z1 ⟨rfl, hD1, hOw, w5⟩)))
              | (refine Ir.step_append_ints (by rfl) (.const (.slice none 0 0)) (.tmp 107) (by rfl) (.slice none 0 0) [] (by rfl) (Ir.Own.nil _) sA gs.length scap gs (by rfl) rfl hgn (HSeen.out _ _ _ _ _ _ hD1.out (by first | exact (Kept.refl _ _).drew | exact Kept.refl _ _ | exact (Kept.refl _ _).drewN _)) (by simp only [List.length_nil]; omega) ?_; intro v7 x7 o7 g7 b7; have h7 := Lib.hid (HApp.out _ _ _ _ _ _ _ _ hD1.out (by first | exact (Kept.refl _ _).drew | exact Kept.refl _ _ | exact (Kept.refl _ _).drewN _) o7 g7); have w5 := (HCl.out x7 h7.out.2.1).2.2.2.2; clear o7 g7 b7)
              | (refine Ir.step_append_ints (by rfl) (.const (.slice none 0 0)) (.tmp 107) (by rfl) (.slice none 0 0) [] (by rfl) (Ir.Own.nil _) sA gs.length scap gs (by rfl) rfl hgn (HSeen.out _ _ _ _ _ _ ⟨H0.out, rfl⟩ (by first | exact (Kept.refl _ _).drew | exact Kept.refl _ _ | exact (Kept.refl _ _).drewN _)) (by simp only [List.length_nil]; omega) ?_; intro v7 x7 o7 g7 b7; have h7 := Lib.hid (HApp.out _ _ _ _ _ _ _ _ ⟨H0.out, rfl⟩ (by first | exact (Kept.refl _ _).drew | exact Kept.refl _ _ | exact (Kept.refl _ _).drewN _) o7 g7); have w5 := (HCl.out x7 h7.out.2.1).2.2.2.2; clear o7 g7 b7)
              | fail)
          all_goals
            clear w5
            go_wp2_with fail
            go_ret
            first
            | exact ⟨rfl, _, _, _, hF3.out.1⟩
            | exact ⟨rfl, _, _, _, hP2.out.1⟩
        · have hb0 : (sd == 0) = false := by simpa using e0
          have hb1 : (sd == 1) = false := by simpa using e1
          have hb2 : (sd == 2) = false := by simpa using e2
          have hb3 : (sd == 3) = false := by simpa using e3
          by_cases e5 : sd = 5
          · have hb5 : (sd == 5) = true := by simpa using e5
            have HJ1 := Lib.hid (HJ.out x1 ⟨ws, bs, cs, H0.out⟩)
            clear HJ e0 e1 e2 e3 e5 
            go_wp2_with fail
            refine HJ1.out.mono ?_
            rintro e z ⟨rfl, hz⟩
            have HZ := Lib.hid hz
            clear hz HJ1
            go_wp2_with fail
            go_ret
            exact ⟨rfl, HZ.out⟩
          · have hb5 : (sd == 5) = false := by simpa using e5
            clear HJ e0 e1 e2 e3 e5
            go_wp2_with fail
            go_ret
            exact ⟨rfl, ws, bs, cs, H0.out⟩
end
end Go.Proofs.YtoagghileebokaaGreatDoor.Sp

/-
  The document's new space; the law's Made: a space and the document's, or none.
-/
namespace Go.Proofs.YtoagghileebokaaGreatDoor.Wk
open Go.RowKit Go.Proofs.YtoagghileebokaaGreatDoor.Ar Go.Proofs.YtoagghileebokaaGreatDoor.Sp Go.Proofs.YtoagghileebokaaGreatDoor.Sh
open Go.Proofs.YtoagghileebokaaGreatDoor.Hd (Hd Fields)
open Go.Proofs.YtoagghileebokaaGreatDoor.Tb (Ty Tab newF newF_len)
open Go.Proofs.YtoagghileebokaaGreatDoor.Wd (Table)
set_option linter.unusedVariables false

set_option maxRecDepth 100000 in
set_option maxHeartbeats 2000000 in
theorem dnew_ok {w : World} {B : Option Addr} {d : Nat} {l : List Ty} (n : Nat) (hn : n ≤ 65536) :
    Calls Tryz.prog 76 #[.int .i64 (n : Int), .slice B l.length d] w fun e y => ∃ r q cap, e = .returned (.pointer (some ⟨r, 0, none⟩)) ∧ DSp y r q cap B d l (newW n) ∧ w.heap.size ≤ r ∧ w.heap.size ≤ q ∧ Kept [] w y := by
  have hmk := run_make_words n (by omega) w
  have hk2 : Kept [] w ((w.alloc (.cells (Ar.ints (List.replicate n 0)).toArray 55)).alloc (.cells #[.slice (some ⟨w.heap.size, 0, none⟩) n n, .slice B l.length d] 146)) := ((Kept.refl [] w).alloc _).alloc _
  have hH : Has ((w.alloc (.cells (Ar.ints (List.replicate n 0)).toArray 55)).alloc (.cells #[.slice (some ⟨w.heap.size, 0, none⟩) n n, .slice B l.length d] 146)) (w.heap.size + 1) 146 [.slice (some ⟨w.heap.size, 0, none⟩) n n, .slice B l.length d] := by
    have := Has.new (w.alloc (.cells (Ar.ints (List.replicate n 0)).toArray 55)) 146 [.slice (some ⟨w.heap.size, 0, none⟩) n n, .slice B l.length d]
    rwa [World.size_alloc] at this
  have hR : Has ((w.alloc (.cells (Ar.ints (List.replicate n 0)).toArray 55)).alloc (.cells #[.slice (some ⟨w.heap.size, 0, none⟩) n n, .slice B l.length d] 146)) w.heap.size 55 (Ar.ints (List.replicate n 0) ++ []) := by
    rw [List.append_nil]
    exact (Has.new w 55 (Ar.ints (List.replicate n 0))).alloc _
  have hD : DSp ((w.alloc (.cells (Ar.ints (List.replicate n 0)).toArray 55)).alloc (.cells #[.slice (some ⟨w.heap.size, 0, none⟩) n n, .slice B l.length d] 146)) (w.heap.size + 1) w.heap.size n B d l (List.replicate n 0) :=
    ⟨by rw [List.length_replicate]; exact hH, ⟨[], hR⟩, by rw [List.length_replicate]; exact Nat.le_refl _⟩
  have hg : gran (List.replicate n (0 : Int)) = (n : Int) / 2 := by unfold gran; rw [List.length_replicate]
  have HLay := Lib.hid (lay_ok hD (by rw [List.length_replicate]; exact hn) 0 ((n : Int) / 2) (Int.le_refl _) (fun _ => by rw [hg]; omega) (by omega))
  have HE : Hid (gapS (List.replicate n 0) 0 (0 + (n : Int) / 2) = newW n) := Lib.hid (by rw [Int.zero_add, ← hg]; rfl)
  have HK2 := Lib.hid hk2
  obtain ⟨G, hG⟩ : ∃ G, G = (n : Int) / 2 := ⟨_, rfl⟩
  rw [← hG] at HLay HE
  have ed : (n : Int).tdiv 2 = G := by rw [hG]; exact Int.tdiv_eq_ediv_of_nonneg (by omega)
  have hG0 : 0 ≤ G ∧ G ≤ 32768 := by omega
  clear hk2 hH hR hD hg hG
  go_enter Tryz.func76, Tryz.ntmps76
  go_wp2_with fail
  refine HLay.out.mono ?_
  rintro e y ⟨⟨v, rfl⟩, q', cap', h1, h2, h3⟩
  have HFin : Hid (DSp y (w.heap.size + 1) q' cap' B d l (newW n) ∧ w.heap.size ≤ w.heap.size + 1 ∧ w.heap.size ≤ q' ∧ Kept [] w y) := Lib.hid ⟨by rw [← HE.out]; exact h1, by omega, by
    rcases h2 with rfl | h2
    · exact Nat.le_refl _
    · exact Nat.le_trans HK2.out.more h2, HK2.out.forget h3 (fun i hi => by rw [List.mem_singleton.1 hi]; omega)⟩
  clear h1 h2 h3 HLay HE HK2
  go_wp2_with fail
  go_ret
  exact ⟨_, q', cap', rfl, HFin.out⟩

/-- A new space of a law's own making, its words told. -/
theorem mine_new {w : World} (n : Nat) (hn : mayB (n : Int) = true) {x : World} {tp : Nat} {A : Option Addr} {c : Nat} {l : List Ty} (hF : Fields x) (hTb : Table x) (hT : Tab x tp A c l) (k : Kept [] w x) :
    Calls Tryz.prog 20 #[.int .i64 (n : Int), .pointer (some ⟨tp, 0, none⟩)] x fun e y => ∃ s : Ids, e = .returned (.tuple #[.pointer (some ⟨s.sp, 0, none⟩), .int .i64 0]) ∧ Mine w y s l (newW n) (newB n) (newC n) ∧ Kept [] x y ∧ s.n = (newB n).length := by
  refine (new_yes n hn hF hTb hT).mono ?_
  rintro e y ⟨s0, he, hs, hS0, hk, hf⟩
  obtain ⟨s, hsp, hst, hSS, hsn⟩ : ∃ s : Ids, s.sp = s0.sp ∧ s.turn = s0.turn ∧ Spc y s l (newW n) (newB n) ∧ s.n = (newB n).length := ⟨{ s0 with n := (newB n).length }, rfl, rfl, ⟨hS0.head, hS0.ar, hS0.tab, hS0.bv, hS0.wm⟩, rfl⟩
  rw [← hsp] at he
  rw [← hst] at hf
  have hS := hSS
  have hturn : ∀ i ∈ s.turn, w.heap.size ≤ i := fun i hi => Nat.le_trans k.more (hf i hi)
  refine ⟨s, he, ⟨k.trans hk, hS, ⟨hF.keep0 hk, table_keep0 hTb hk, fun hm => ?_, fun hm => ?_⟩, new_snd hn l, hturn⟩, hk, hsn⟩
  · have := hf _ hm
    have := hF.lt
    omega
  · have h1 := hf _ hm
    have hc := hTb 0 (by omega)
    have hn : x.heap[1]? = none := Array.getElem?_eq_none h1
    simp [World.cell?, hn] at hc

def MadePost (w : World) (n : Int) (B : Option Addr) (d : Nat) (l : List Ty) (e : Ending) (y : World) : Prop :=
  (((newF [] l).2 ≠ 0 ∨ mayB n = false) ∧ e = .returned (.tuple #[.pointer none, .pointer none, .bool true]) ∧ Kept [] w y) ∨
  ∃ (m : Nat) (s : Ids) (r : Nat), n = (m : Int) ∧ mayB (m : Int) = true ∧ e = .returned (.tuple #[.pointer (some ⟨s.sp, 0, none⟩), .pointer (some ⟨r, 0, none⟩), .bool true]) ∧ (2 * s.n : Int) = (m : Int) ∧ Duo w y s r B d l (newW m) (newB m) (newC m) (newW m)
set_option maxRecDepth 100000 in
set_option maxHeartbeats 4000000 in
theorem made_ok {w : World} (n : Int) (n0 : -9223372036854775808 ≤ n) (n1 : n ≤ 9223372036854775807) {B : Option Addr} {d : Nat} {l : List Ty} (hF : Fields w) (hTb : Table w) (hS : Tb.Seen w B l) (hok : ∀ x ∈ l, x.ok) (hlen : l.length ≤ 100000) :
    Calls Tryz.prog 46 #[.int .i64 n, .slice B l.length d] w (MadePost w n B d l) := by
  have HNt := Lib.hid (Tb.new_ok (l := l) d hS hok (by omega))
  have HFd := Lib.hid hF
  have HTb := Lib.hid hTb
  clear hF hTb hS hok
  unfold MadePost
  go_enter Tryz.func46, Tryz.ntmps46
  go_wp2_with fail
  refine HNt.out.mono ?_
  rintro e x1 (⟨h0, tp, A, c, rfl, hm⟩ | ⟨h0, rfl, k1⟩)
  · have hl1 : (newF [] l).1 = l := by rw [newF_len [] h0]; rfl
    rw [hl1] at hm
    have k1 : Kept [] w x1 := hm.2.2.2
    have HT := Lib.hid hm.1
    have K1 := Lib.hid k1
    clear hm k1 hl1 h0 HNt
    cases hmb : mayB n with
    | false =>
      have HN := Lib.hid (new_no n hmb tp x1)
      have hq : ¬ (16 ≤ n ∧ n ≤ 65536 ∧ n.tmod 2 = 0) := fun h => by
        have := (mayB_iff n).2 ⟨h.1, h.2.1, h.2.2⟩
        rw [hmb] at this; cases this
      have HWy : Hid ((newF [] l).2 ≠ 0 ∨ mayB n = false) := Lib.hid (.inr hmb)
      clear hmb
      by_cases h1 : n < 16
      · go_wp2_with fail
        refine HN.out.mono ?_
        rintro e x2 ⟨rfl, rfl⟩
        go_wp2_with fail
        go_ret3
        exact .inl ⟨HWy.out, rfl, K1.out⟩
      · by_cases h2 : 65536 < n
        · go_wp2_with fail
          refine HN.out.mono ?_
          rintro e x2 ⟨rfl, rfl⟩
          go_wp2_with fail
          go_ret3
          exact .inl ⟨HWy.out, rfl, K1.out⟩
        · have em : n.tmod 2 = 1 := by
            rw [Int.tmod_eq_emod_of_nonneg (by omega)] at hq ⊢
            omega
          clear hq
          go_wp2_with fail
          refine HN.out.mono ?_
          rintro e x2 ⟨rfl, rfl⟩
          go_wp2_with fail
          go_ret3
          exact .inl ⟨HWy.out, rfl, K1.out⟩
    | true =>
      obtain ⟨q1, q2, q3⟩ := (mayB_iff _).1 hmb
      obtain ⟨m, rfl⟩ := Int.eq_ofNat_of_zero_le (show 0 ≤ n by omega)
      have HN := Lib.hid (mine_new (w := w) m hmb (HFd.out.keep0 K1.out) (table_keep0 HTb.out K1.out) HT.out K1.out)
      have HB := Lib.hid hmb
      have em : (m : Int).tmod 2 = 0 := q3
      have hm6 : m ≤ 65536 := by omega
      clear hmb q3
      go_wp2_with fail
      refine HN.out.mono ?_
      rintro e x2 ⟨s, rfl, hmn, k2, hsn⟩
      have HM := Lib.hid hmn
      have HSn := Lib.hid hsn
      have HDn := Lib.hid (dnew_ok (w := x2) (B := B) (d := d) (l := l) m hm6)
      clear hmn k2 hsn HN HT K1
      go_wp2_with fail
      refine HDn.out.mono ?_
      rintro e x3 ⟨r, q, cap, rfl, hD, hr, hq, k3⟩
      have hm3 := HM.out.keep0 k3
      have HDu : Hid (Duo w x3 s r B d l (newW m) (newB m) (newC m) (newW m)) := Lib.hid ⟨HFd.out, HTb.out, hm3, ⟨q, cap, hD, fun hh => by have := HM.out.spc.turn_lt _ hh; omega⟩, Nat.le_trans HM.out.kept.more hr, by
        have h1 := HM.out.snd.len
        rw [show gran (newW m) = gran (List.replicate m (0 : Int)) from gran_eq (becomeW_length _ _ _ _)] at h1
        have := (gran_zeros HB.out).2.1
        omega, HSn.out.symm⟩
      have HAr := Lib.hid (arena_ok hm3.spc)
      clear hD hr hq k3 hm3 HM HDn
      go_wp2_with fail
      refine HAr.out.mono ?_
      rintro e x4 ⟨rfl, rfl⟩
      go_wp2_with fail
      go_ret3
      exact .inr ⟨m, s, r, rfl, HB.out, rfl, by
        have h1 := HDu.out.mine.snd.len
        have h2 := HDu.out.size
        rw [show gran (newW m) = gran (List.replicate m (0 : Int)) from gran_eq (becomeW_length _ _ _ _), (gran_zeros HB.out).1] at h1
        have h3 := ((mayB_iff _).1 HB.out).2.2
        rw [Int.tmod_eq_emod_of_nonneg (by omega)] at h3
        omega, HDu.out⟩
  · have hb : ((newF [] l).2 != 0) = true := by rw [bne_iff_ne]; exact h0
    have HWy : Hid ((newF [] l).2 ≠ 0 ∨ mayB n = false) := Lib.hid (.inl h0)
    have K1 := Lib.hid k1
    clear h0 k1
    generalize (newF [] l).2 = er at hb ⊢
    go_wp2_with fail
    go_ret3
    exact .inl ⟨HWy.out, rfl, K1.out⟩
end Go.Proofs.YtoagghileebokaaGreatDoor.Wk

/-
  The contract of the law's joins: a reference is laid, of a space and of the document's.
-/
namespace Go.Proofs.YtoagghileebokaaGreatDoor.Sp
open Go.RowKit Go.Proofs.YtoagghileebokaaGreatDoor.Ar Go.Proofs.YtoagghileebokaaGreatDoor.Sh Go.Sort
open Go.Proofs.YtoagghileebokaaGreatDoor.Hd (Hd Fields cells4 free4 fitL)
open Go.Proofs.YtoagghileebokaaGreatDoor.Tb (Ty Tab cells3)
open Go.Proofs.YtoagghileebokaaGreatDoor.Kd (typV)
open Go.Proofs.YtoagghileebokaaGreatDoor.Wd (Table)
set_option linter.unusedVariables false
theorem and65535 (n : Int) : bits .and .i64 n 65535 = n % 65536 := Hd.and_mask n 65535 16 (by decide) (by decide) (by decide)
/-- Where objects begin. -/
def ats (cs : List Cel) : List Int := (objs cs).map (fun c => c.a)
theorem ats_length (cs : List Cel) : (ats cs).length ≤ cs.length := by unfold ats objs; rw [List.length_map]; exact List.length_filter_le _ _
theorem ats_snoc (cs : List Cel) (c : Cel) : ats (cs ++ [c]) = if c.h.tg = 1 then ats cs ++ [c.a] else ats cs := by
  unfold ats
  rw [objs_append]
  by_cases h : c.h.tg = 1
  · rw [if_pos h, objs_one h, List.map_append]; rfl
  · rw [if_neg h, objs_none (cs := [c]) (fun d hd => by rw [List.mem_singleton.1 hd]; exact h), List.append_nil]
theorem ats_get {cs : List Cel} {k : Nat} (h : k < (ats cs).length) : ∃ c ∈ cs, c.h.tg = 1 ∧ c.a = (ats cs).getD k 0 := by
  have hm : (ats cs).getD k 0 ∈ ats cs := by rw [List.getD_eq_getElem?_getD, List.getElem?_eq_getElem h]; exact List.getElem_mem h
  generalize (ats cs).getD k 0 = z at *
  unfold ats at hm
  obtain ⟨c, hc, e⟩ := List.mem_map.1 hm
  obtain ⟨h1, h2⟩ := objs_mem.1 hc
  exact ⟨c, h1, h2, e⟩
theorem pick_lt (n : Int) (L : Nat) (h : 0 < L) : ∃ (m : Int) (k : Nat), bits .and .i64 n 65535 = m ∧ k < L ∧ m.tmod (L : Int) = (k : Int) := by
  refine ⟨n % 65536, ?_⟩
  have h1 : 0 ≤ n % 65536 := Int.emod_nonneg _ (by decide)
  rw [Int.tmod_eq_emod_of_nonneg h1]
  have h2 := Int.emod_nonneg (n % 65536) (show (L : Int) ≠ 0 by omega)
  have h3 := Int.emod_lt_of_pos (n % 65536) (show (0 : Int) < L by omega)
  exact ⟨((n % 65536) % (L : Int)).toNat, and65535 n, by omega, by omega⟩
theorem addrR_range (g : Int) (h0 : 0 ≤ g) (h1 : g ≤ 32768) : 0 ≤ addrR g ∧ addrR g < 18446744073709551616 := by
  unfold addrR
  split <;> omega
theorem refs_get {k : Nat} {wd : Int} {mk sl j : Nat} (h : j < (Kd.refsTo k wd mk sl).length) : ∃ n : Nat, (Kd.refsTo k wd mk sl).getD j 0 = (n : Int) ∧ n < sl := by
  refine refsTo_mem (k := k) (wd := wd) (mk := mk) ?_
  rw [List.getD_eq_getElem?_getD, List.getElem?_eq_getElem h]
  exact List.getElem_mem h
section
variable {w x : World} {s : Ids} {r : Nat} {B : Option Addr} {d : Nat} {l : List Ty}
set_option maxRecDepth 100000 in
set_option maxHeartbeats 16000000 in
theorem joins_ok (h : Twin w x s r B d l) (hT : Tb.Seen w B l) (sd sg si sn su : Int) (sA : Option Addr) (slen scap : Nat) (g0 : -9223372036854775808 ≤ sg) (g1 : sg ≤ 9223372036854775807) (i0 : -9223372036854775808 ≤ si) (i1 : si ≤ 9223372036854775807) (n0 : -9223372036854775808 ≤ sn) (n1 : sn ≤ 9223372036854775807) :
    Calls Tryz.prog 85 #[.pointer (some ⟨s.sp, 0, none⟩), .pointer (some ⟨r, 0, none⟩), .agg #[.int .i64 sd, .int .i64 sg, .int .i64 si, .int .i64 sn, .int .u64 su, .slice sA slen scap]] x fun e y => e = .returned (.bool true) ∧ Twin w y s r B d l := by
  obtain ⟨ws, bs, cs, h0⟩ := h
  have hf := fit_of h0.mine hT
  have hmost := hf.most
  have hsh := hf.short
  have hgr : 0 ≤ gran ws ∧ gran ws ≤ 32768 := by unfold gran; omega
  have HF := Lib.hid hf
  have HT := Lib.hid h0.mine.snd.tiled
  have hb0 := Has.new x 110 [.int .i64 sd, .int .i64 sg, .int .i64 si, .int .i64 sn, .int .u64 su, .slice sA slen scap]
  have hk : Kept [] x (x.alloc (.cells #[.int .i64 sd, .int .i64 sg, .int .i64 si, .int .i64 sn, .int .u64 su, .slice sA slen scap] 110)) := (Kept.refl [] x).alloc _
  have h1 := h0.keep0 hk
  clear h0 hk hf hT
  obtain ⟨x1, hx1⟩ : ∃ x1, x.alloc (.cells #[.int .i64 sd, .int .i64 sg, .int .i64 si, .int .i64 sn, .int .u64 su, .slice sA slen scap] 110) = x1 := ⟨_, rfl⟩
  have hb1 : Has x1 x.heap.size 110 [.int .i64 sd, .int .i64 sg, .int .i64 si, .int .i64 sn, .int .u64 su, .slice sA slen scap] := by rw [← hx1]; exact hb0
  rw [hx1] at h1
  have HB := Lib.hid hb1
  have H0 := Lib.hid h1
  obtain ⟨q, cap, hd, hq⟩ := h1.doc
  have HAl := Lib.hid (all_ok hd (HF.out.keep0 h1.mine.kept))
  clear hb0 hb1 h1 hd hq
  go_enter Tryz.func85, Tryz.ntmps85
  go_wp2_with fail
  clear hx1
  generalize x.heap.size = b5 at *
  refine HAl.out.mono ?_
  rintro e x2 ⟨v, rfl, hO, hV, k2⟩
  obtain ⟨Av, cv, rfl, _⟩ := back_own (Kept.refl [] _) hO
  have HSn := Lib.hid hO.seen
  have H2 := Lib.hid (H0.out.keep0 k2)
  have B2 := Lib.hid (HB.out.keep0 k2)
  have HI0 : Hid (Ir.Own x2 (.slice none 0 0) (ats (cs.take 0)) ∧ Sh.FreshV x2 (.slice none 0 0) ∧ Kept [] x2 x2) := Lib.hid ⟨Ir.Own.nil _, .inl rfl, Kept.refl _ _⟩
  clear hO hV k2 HAl H0 HB
  go_wp2_with fail
  go_loopw [7, 9] (fun v t wr => ∃ j : Nat, t = .int .i64 (j : Int) ∧ j ≤ cs.length ∧ Hid (Ir.Own wr v (ats (cs.take j)) ∧ Sh.FreshV x2 v ∧ Kept [] x2 wr)) (fun _ t _ => cs.length - (intOf t).toNat)
  case atStart => exact ⟨0, rfl, Nat.zero_le _, HI0⟩
  case round =>
    clear HI0
    obtain ⟨j, rfl, hj, hr⟩ := hrel
    by_cases hlt : j < cs.length
    · obtain ⟨g9, o9, rfl, hg9, c0, c1, c2, c3, c4⟩ := (HSn.out.keep0 hr.out.2.2).at j hlt _ rfl
      have htk := cel_take hlt
      have hsn := ats_snoc (cs.take j) (cs.getD j Cel.zero)
      rw [← htk] at hsn
      have hal : (ats (cs.take j)).length ≤ 32768 := by have h1 := ats_length (cs.take j); have h2 := List.length_take_le j cs; omega
      have hO := hr.out.1
      have hV := hr.out.2.1
      have hK := hr.out.2.2
      clear htk hr
      generalize cs.getD j Cel.zero = c at *
      obtain ⟨xa, ⟨xt, xy, xl, xz⟩⟩ := c
      simp only at *
      by_cases ht : xt = 1
      · rw [if_pos ht] at hsn
        have HSn1 := Lib.hid hsn
        have HO := Lib.hid (hO.keep0 ((Kept.refl [] wr).alloc (.cells #[.int .i64 xa] 3)))
        have HV := Lib.hid hV
        have HK := Lib.hid (hK.alloc (.cells #[.int .i64 xa] 3))
        have HSx : Hid (Ir.Seen (wr.alloc (.cells #[.int .i64 xa] 3)) (some ⟨wr.heap.size, 0, none⟩) [xa]) := Lib.hid (Ir.Row.seen (Has.new wr 3 [.int .i64 xa]))
        clear hsn hO hV hK
        generalize ats (cs.take j) = az at *
        subst ht
        go_wp2_with (at_builtin; (refine Ir.append_numbers rfl (.tmp 36) (.tmp 42) rfl u7 az rfl HO.out (some ⟨wr.heap.size, 0, none⟩) 1 1 [xa] rfl rfl (fun h => by cases h) HSx.out (by omega) ?_))
        intro v' w5 o5 g5 b5'
        have HN : Hid (Ir.Own w5 v' (ats (cs.take (j + 1))) ∧ Sh.FreshV x2 v' ∧ Kept [] x2 w5) := Lib.hid ⟨by rw [HSn1.out]; exact o5, own_fresh (v' := v') HK.out HV.out (by rw [World.size_alloc]; exact b5'), own_grown HK.out HV.out g5⟩
        clear o5 g5 b5' HO HV HK HSx HSn1 c0 c1 c2 c3 c4
        go_wp2_with fail
        go_roundw
        case rel => exact ⟨j + 1, by go_num, by omega, HN⟩
        case measure => simp [intOf] <;> omega
      · rw [if_neg ht] at hsn
        have hb : (xt == 1) = false := by simpa using ht
        have HN : Hid (Ir.Own wr u7 (ats (cs.take (j + 1))) ∧ Sh.FreshV x2 u7 ∧ Kept [] x2 wr) := Lib.hid ⟨by rw [hsn]; exact hO, hV, hK⟩
        clear hsn hO hV hK ht
        go_wp2_with fail
        go_roundw
        case rel => exact ⟨j + 1, by go_num, by omega, HN⟩
        case measure => simp [intOf] <;> omega
    · obtain rfl : j = cs.length := by omega
      have hO := hr.out.1
      rw [List.take_length] at hO
      have HK := Lib.hid hr.out.2.2
      have hgt := fun (k : Nat) (hk : k < (ats cs).length) => ats_get hk
      have HGt := Lib.hid hgt
      obtain ⟨az, has⟩ : ∃ az, az = ats cs := ⟨_, rfl⟩
      rw [← has] at hO HGt
      clear hr hgt has
      obtain ⟨A7, c7, hu7, hbk⟩ := Ir.back_own (Kept.refl [] _) hO
      subst hu7
      have HS7 := Lib.hid hbk.2.1
      clear hbk hO
      by_cases hz : az.length = 0
      · go_wp2_with fail
        go_ret
        exact ⟨rfl, ws, bs, cs, H2.out.keep0 HK.out⟩
      · have hpos : 0 < az.length := by omega
        obtain ⟨x3, hx3⟩ : ∃ x3, x3 = wr := ⟨_, rfl⟩
        subst hx3
        have H3 := Lib.hid (H2.out.keep0 HK.out)
        have B3 := Lib.hid (B2.out.keep0 HK.out)
        obtain ⟨q1, q2, q3⟩ : x3.cell? ⟨b5, 1, none⟩ = some (.int .i64 sg) ∧ x3.cell? ⟨b5, 2, none⟩ = some (.int .i64 si) ∧ x3.cell? ⟨b5, 3, none⟩ = some (.int .i64 sn) := ⟨B3.out.cell 1, B3.out.cell 2, B3.out.cell 3⟩
        obtain ⟨mg, kg, hmg, hkg, hkg2⟩ := pick_lt sg az.length hpos
        obtain ⟨mi, ki, hmi, hki, hki2⟩ := pick_lt si az.length hpos
        obtain ⟨ga, fa, rfl, ha⟩ := HS7.out.cells (by rintro rfl; exact absurd hpos (by simp))
        have a1 := ha kg hkg
        have a2 := ha ki hki
        obtain ⟨c, hc, hct, hca⟩ := HGt.out kg hkg
        obtain ⟨c2, hc2, hct2, hca2⟩ := HGt.out ki hki
        rw [← hca] at a1
        rw [← hca2] at a2
        have hb1 := HT.out.mem c hc
        have hb2 := HT.out.mem c2 hc2
        have hob := obj_of HT.out (Int.le_refl _) (Int.le_refl _) hc hct
        have hz1 := can_sz hb1.2.2.1
        have hz2 := can_sz hb2.2.2.1
        have hu := addrR_range c2.a hb2.1 (by omega)
        have HAd := Lib.hid (fun y => daddr_ok (w := y) c2.a (by omega))
        have hce : c.a ≤ 32768 ∧ 0 ≤ c.a := by omega
        have HC := Lib.hid (And.intro hc (And.intro hct hob))
        clear ha H2 B2 HSn HS7 hca hca2 hct hct2 hc hc2 hb1 hb2 hz1 hz2 HGt hob
        generalize addrR c2.a = ua at *
        generalize c2.a = ca2 at *
        obtain ⟨ca, hca⟩ : ∃ ca, ca = c.a := ⟨_, rfl⟩
        rw [← hca] at a1 hce
        have HCA := Lib.hid hca
        clear hca
        go_upto_if 58 with fail
        go_cut [11] (fun vv wx => ∃ u, vv = .int .u64 u ∧ 0 ≤ u ∧ u < 18446744073709551616 ∧ wx = x3)
        case first =>
          by_cases hsi : si ≥ 0
          · go_wp2_with fail
            refine (HAd.out _).mono ?_
            rintro e x4 ⟨rfl, rfl⟩
            go_wp2_with fail
            go_meet
            case rel => exact ⟨_, rfl, hu.1, hu.2, rfl⟩
          · go_wp2_with fail
            go_meet
            case rel => exact ⟨0, rfl, by decide, by decide, rfl⟩
        case rest =>
          obtain ⟨uu, rfl, hu0, hu1, rfl⟩ := hcut
          obtain ⟨x3, hx3⟩ : ∃ x3, x3 = wc := ⟨_, rfl⟩
          subst hx3
          clear HAd hu a2 hmi hki hki2 hmg hkg2 hkg a1
          obtain ⟨hc, hct, hE, hH⟩ := HC.out
          rw [← HCA.out] at hE hH
          have hdt : docT ws l ca = ofT ws l ca := by unfold docT; rw [if_pos hE]
          have hdh : docH ws l ca = hdH ws ca := by unfold docH; rw [if_pos hE]
          obtain ⟨gn, sl, F⟩ := facts_all HF.out.ok hE
          have hfs := facts_size HF.out.ok hE
          obtain ⟨q, cap, hd, hq⟩ := H3.out.doc
          obtain ⟨d0, d1, f0⟩ := hd.cells
          have HOf := Lib.hid (fun y (k : Kept [] x3 y) => sof_ok (hd.keep0 k) (HF.out.keep0 (H3.out.mine.kept.trans k)) ca)
          rw [hdt, hdh, hE] at HOf
          have HRf : Hid (∀ y, Calls Tryz.prog 117 #[typV (ofT ws l ca).k (ofT ws l ca).wd (ofT ws l ca).ms, .int .i64 (hdH ws ca).ln] y fun e z => ∃ v, e = .returned (.tuple #[v, .int .i64 0]) ∧ Ir.Own z v (Kd.refsTo (ofT ws l ca).k (ofT ws l ca).wd (ofT ws l ca).ms sl) ∧ Kept [] y z) := Lib.hid fun y => by
            refine (Kd.refsDoc_ok (ofT ws l ca).k (ofT ws l ca).wd (ofT ws l ca).ms (hdH ws ca).ln F.ms y).mono ?_
            rintro e z ⟨v, he, ho, hk⟩
            have hr : Kd.refsR (ofT ws l ca).k (ofT ws l ca).wd (ofT ws l ca).ms (hdH ws ca).ln = Kd.refsTo (ofT ws l ca).k (ofT ws l ca).wd (ofT ws l ca).ms sl := by
              unfold Kd.refsR
              rw [if_pos F.err, F.slots]
              rfl
            rw [F.err] at he
            rw [hr] at ho
            exact ⟨v, he, ho, hk⟩
          have HRg := Lib.hid (fun (j : Nat) (h : j < (Kd.refsTo (ofT ws l ca).k (ofT ws l ca).wd (ofT ws l ca).ms sl).length) => refs_get h)
          have hgn : ca = (gn : Int) := F.gEq
          have hsl : ofS ws l ca = (sl : Int) := F.slEq
          rw [hsl] at hfs
          have hSl := Lib.hid hsl
          have HVw : Hid (∀ y, Kept [] x3 y → Calls Tryz.prog 81 #[.pointer (some ⟨s.ap, 0, none⟩), .pointer (some ⟨s.tp, 0, none⟩), .int .i64 ca] y fun e z => ∃ v, e = .returned (.tuple #[.pointer (some ⟨v, 0, none⟩), .int .i64 0]) ∧ Sh.View z v s.ap ca (hdH ws ca) (ofT ws l ca) (ofS ws l ca) ∧ Kept [] y z) := Lib.hid fun y k => duo_view (H3.out.keep0 k) ca (by omega) (by omega) hE
          have HSt : Hid (∀ z v (n : Int), Kept [] x3 z → Sh.View z v s.ap ca (hdH ws ca) (ofT ws l ca) (ofS ws l ca) → 0 ≤ n → n < (sl : Int) → Calls Tryz.prog 82 #[.pointer (some ⟨v, 0, none⟩), .int .i64 n, .int .u64 uu] z fun e y => e = .returned (.int .i64 0) ∧ Duo w y s r B d l (ws.set (slotI ca n) uu) bs cs ws ∧ Kept (r :: s.turn) z y) := Lib.hid fun z v n k hv m0 m1 => by
            rw [HCA.out] at hv hSl ⊢
            exact duo_store (H3.out.keep0 k) hc hct hv n uu m0 (by rw [hSl.out]; exact m1) hu0 hu1
          obtain ⟨L, hLL⟩ : ∃ L, L = ws.length := ⟨_, rfl⟩
          obtain ⟨M, hM⟩ : ∃ M, M = l.length := ⟨_, rfl⟩
          have hrd := hd.head.lt
          rw [← hLL] at d0
          rw [← hM] at d1
          rw [← hLL, ← hM] at HOf
          have HCl : Hid (∀ z, Kept [] x3 z → z.cell? ⟨r, 0, none⟩ = some (.slice (some ⟨q, 0, none⟩) L cap) ∧ z.cell? ⟨r, 1, none⟩ = some (.slice B M d)) := Lib.hid fun z k => ⟨by rw [hLL]; exact (hd.keep0 k).cells.1, by rw [hM]; exact (hd.keep0 k).cells.2.1⟩
          have HLL := Lib.hid hLL
          rw [← hLL] at hfs
          have HGN := Lib.hid hgn
          clear hdt hdh hE hH hd hq F hc hct hLL hM hsl hgn
          generalize ofS ws l ca = sv at *
          generalize ofT ws l ca = tv at *
          generalize hdH ws ca = hv at *
          obtain ⟨tk, tw, tm⟩ := tv
          obtain ⟨vt, vy, vl, vz⟩ := hv
          unfold Hd.val Tb.Ty.val at HOf
          unfold typV at HRf
          simp only at HOf HRf HRg hfs
          have HO2 : Hid (∀ y, Kept [] x3 y → Calls Tryz.prog 112 #[.slice (some ⟨q, 0, none⟩) L cap, .slice B M d, .int .i64 ca] y fun e z => e = .returned (.tuple #[.agg #[.int .u8 vt, .int .i64 vy, .int .i64 vl, .int .i64 vz], .agg #[.int .u8 (tk : Int), .int .i64 tw, .int .u64 (tm : Int)], .int .i64 0]) ∧ Kept [] y z ∧ z.cell? ⟨r, 0, none⟩ = some (.slice (some ⟨q, 0, none⟩) L cap) ∧ z.cell? ⟨r, 1, none⟩ = some (.slice B M d)) := Lib.hid fun y k => (HOf.out y k).mono fun e z ⟨he, hk⟩ => ⟨he, hk, (HCl.out z (k.trans hk)).1, (HCl.out z (k.trans hk)).2⟩
          have hx0 : Kept [] x3 x3 := Kept.refl _ _
          have n1 : x3.heap.size ≠ r := by omega
          have n2 : x3.heap.size + 1 ≠ r := by omega
          clear HOf HCl hrd
          go_upto_region 14 with fail
          go_cut [12, 13] (fun a b wx => ∃ b1 b2, a = .pointer (some ⟨b1, 0, none⟩) ∧ b = .pointer (some ⟨b2, 0, none⟩) ∧ Hid (Two x3 wx b1 b2 [.int .u8 vt, .int .i64 vy, .int .i64 vl, .int .i64 vz] [.int .u8 (tk : Int), .int .i64 tw, .int .u64 (tm : Int)]))
          case first =>
            go_region_held3 (fun y => y.cell? ⟨r, 0, none⟩ = some (.slice (some ⟨q, 0, none⟩) L cap) ∧ y.cell? ⟨r, 1, none⟩ = some (.slice B M d)) (go_keep)
              (first | (go_at_call 112; refine (HO2.out _ (by first | exact hx0.drew | exact (hx0.alloc _).drew | exact ((hx0.alloc _).alloc _).drew)).mono ?_; rintro e z1 ⟨rfl, hz1, r0, r1⟩; have n3 : z1.heap.size ≠ r := Nat.ne_of_gt (World.block_lt_of_cell? z1 _ r0); have n4 : z1.heap.size + 1 ≠ r := Nat.ne_of_gt (Nat.lt_succ_of_lt (World.block_lt_of_cell? z1 _ r0)); (first | (obtain ⟨hh, ht⟩ := box_ht hz1; obtain ⟨i0, i1, i2, i3⟩ := cells4 hh; obtain ⟨j0, j1, j2⟩ := cells3 ht; obtain ⟨fi0, fi1, fi2, fi3⟩ := free4 hh; obtain ⟨fj0, fj1, fj2⟩ := Tb.free3 ht; have kht := Lib.hid (And.intro hh (And.intro ht hz1)); clear hh ht hz1) | (obtain ⟨ht, hh⟩ := box_th hz1; obtain ⟨i0, i1, i2, i3⟩ := cells4 hh; obtain ⟨j0, j1, j2⟩ := cells3 ht; obtain ⟨fi0, fi1, fi2, fi3⟩ := free4 hh; obtain ⟨fj0, fj1, fj2⟩ := Tb.free3 ht; have kth := Lib.hid (And.intro hh (And.intro ht hz1)); clear hh ht hz1) | (obtain ⟨hh, hlt9⟩ := box_h hz1; obtain ⟨i0, i1, i2, i3⟩ := cells4 hh; obtain ⟨fi0, fi1, fi2, fi3⟩ := free4 hh; have kh := Lib.hid (And.intro hh hz1); clear hh hz1) | (obtain ⟨ht, hlt9⟩ := box_t hz1; obtain ⟨j0, j1, j2⟩ := cells3 ht; obtain ⟨fj0, fj1, fj2⟩ := Tb.free3 ht; have kt := Lib.hid (And.intro ht hz1); clear ht hz1) | (have k0 := Lib.hid hz1; clear hz1))))
            all_goals
              clear r0 r1 n3 n4 
              go_wp2_with fail
              go_meet
              case rel =>
                first
                | with_reducible exact ⟨_, _, rfl, rfl, Lib.hid (two4 rfl rfl kht.out.1 kht.out.2.1 kht.out.2.2)⟩
                | with_reducible exact ⟨_, _, rfl, rfl, Lib.hid (two6 rfl rfl kth.out.1 kth.out.2.1 kth.out.2.2)⟩
                | with_reducible exact ⟨_, _, rfl, rfl, Lib.hid (two3 rfl kh.out.1 kh.out.2)⟩
                | with_reducible exact ⟨_, _, rfl, rfl, Lib.hid (two5 rfl kt.out.1 kt.out.2)⟩
                | with_reducible exact ⟨_, _, rfl, rfl, Lib.hid (two1 k0.out)⟩
                | with_reducible exact ⟨_, _, rfl, rfl, Lib.hid (two2 k0.out)⟩
          case rest =>
            obtain ⟨b1, b2, rfl, rfl, hcc⟩ := hcut
            obtain ⟨hb1, hb2, hk4⟩ := hcc.out
            obtain ⟨j0, j1, j2⟩ := cells3 hb2
            obtain ⟨i0, i1, i2, i3⟩ := cells4 hb1
            have HK4 := Lib.hid hk4
            clear hcc hb1 hb2 hk4 HO2 hx0 n1 n2 d0 d1 f0 q1 q2 q3
            go_wp2_with fail
            refine (HRf.out _).mono ?_
            rintro e x5 ⟨v5, rfl, hO5, k5⟩
            have hk35 := HK4.out.trans k5
            obtain ⟨A5, c5, rfl, hbk5⟩ := Ir.back_own (Kept.refl [] _) hO5
            have HS5 := Lib.hid hbk5.2.1
            have H5 := Lib.hid (H3.out.keep0 hk35)
            have HK5 := Lib.hid hk35
            have q3 : x5.cell? ⟨b5, 3, none⟩ = some (.int .i64 sn) := (B3.out.keep0 hk35).cell 3
            clear hO5 k5 hk35 hbk5 j0 j1 j2 i0 i1 i2 i3 HRf B3 HK4
            generalize Kd.refsTo tk tw tm sl = rs at *
            by_cases hz2 : rs.length = 0
            · go_wp2_with fail
              go_ret
              exact ⟨rfl, ws, bs, cs, H5.out⟩
            · have hpos2 : 0 < rs.length := by omega
              obtain ⟨mn, kn, hmn, hkn, hkn2⟩ := pick_lt sn rs.length hpos2
              obtain ⟨g5, f5, rfl, ha5⟩ := HS5.out.cells (by rintro rfl; exact absurd hpos2 (by simp))
              have a5 := ha5 kn hkn
              obtain ⟨nn, hnn, hnl⟩ := HRg.out kn hkn
              rw [hnn] at a5
              have CAr := Lib.hid (arena_ok H5.out.mine.spc)
              have CTb := Lib.hid (table_ok H5.out.mine.spc)
              have CV := Lib.hid (HVw.out x5 HK5.out)
              clear ha5 hnn HRg HVw HS5
              go_wp2_with fail
              refine CAr.out.mono ?_
              rintro e x6 ⟨rfl, rfl⟩
              go_wp2_with fail
              refine CTb.out.mono ?_
              rintro e x6 ⟨rfl, rfl⟩
              go_wp2_with fail
              refine CV.out.mono ?_
              rintro e z1 ⟨v, rfl, hvw, kz⟩
              have HSz := Lib.hid (HSt.out z1 v (nn : Int) (HK5.out.trans kz) hvw (by omega) (by omega))
              have hI : Hid (slotI ca (nn : Int) = 2 * gn + 1 + nn) := Lib.hid (by have := HGN.out; unfold slotI; omega)
              have hIl : 2 * gn + 1 + nn < L := by have := HGN.out; omega
              have hL : L ≤ 65536 := by rw [HLL.out]; exact hsh
              clear hvw kz CAr CTb CV HSt q3 a5 hmn hkn2 hkn hfs hSl HC HCA hce
              generalize slotI ca (nn : Int) = I at *
              obtain rfl := HGN.out
              go_wp2_with fail
              refine HSz.out.mono ?_
              rintro e z2 ⟨rfl, hD, kd⟩
              obtain ⟨q2, cap2, hd2, hq2⟩ := hD.doc
              obtain ⟨c0, c1, f0⟩ := hd2.cells
              rw [← HLL.out] at c0
              have hne : ws ≠ [] := by rintro rfl; have := HLL.out; simp at this; omega
              have HS := Lib.hid hd2.row.seen
              have HDd := Lib.hid hd2
              have HDu := Lib.hid hD
              have HQ2 := Lib.hid hq2
              have HNe := Lib.hid hne
              clear kd hD hd2 hq2 hne HSz H5 H3 hsh
              go_wp2_with (at_builtin; (refine append_words rfl (.const (.slice none 0 0)) (.tmp 127) rfl (.slice none 0 0) [] rfl (Ar.Own.nil _) (some ⟨q2, 0, none⟩) L cap2 ws rfl HLL.out.symm (fun h => by cases h) HS.out (show 0 + L ≤ 1073741824 by omega) ?_))
              intro v2 x5 hO2 hG2 hB2
              have hK2 : Kept [] z2 x5 := own_grown (Kept.refl [] z2) (.inl rfl) hG2
              have hF2 := own_fresh (Kept.refl [] z2) (.inl rfl) hB2
              obtain ⟨gb, cap3, rfl, hcap, hlay2⟩ := lay_of_own hO2 HNe.out
              have hgb : z2.heap.size ≤ gb := by
                rcases hF2 with h | ⟨b, h, hle⟩
                · cases h
                · injection h with h
                  rw [show gb = b from h]; exact hle
              rw [← HLL.out] at hcap ⊢
              have hD5 := HDd.out.keep0 hK2
              have hrq : r ≠ gb := by have := HDd.out.head.lt; omega
              have hD6 := hD5.head.beside ⟨gb, 2 * gn + 1 + nn, none⟩ hrq (.int .u64 uu)
              have hc := hlay2.cell (2 * gn + 1 + nn) (by rw [← HLL.out]; omega)
              have hfz := hlay2.free (2 * gn + 1 + nn)
              clear c0 c1 f0
              have c0 := hD6.cell 0
              have f0 := hD6.free 0
              have HFin : Hid (Duo w ((x5.setCell ⟨gb, 2 * gn + 1 + nn, none⟩ (.int .u64 uu)).setCell ⟨r, 0, none⟩ (.slice (some ⟨gb, 0, none⟩) L cap3)) s r B d l (ws.set I uu) bs cs (ws.set I uu)) := Lib.hid (by
                refine HDu.out.theirs HQ2.out ⟨gb, cap3, ⟨?_, ?_, ?_⟩, .inr hgb, ((hK2.none _).setCell _ _ (.inr hgb)).setCell _ _ (.inl (by simp))⟩
                · rw [List.length_set, ← HLL.out]
                  exact hD6.put 0 _
                · rw [hI.out]
                  obtain ⟨rest, hr⟩ := hlay2.put (2 * gn + 1 + nn) uu (by rw [← HLL.out]; omega)
                  exact ⟨rest, hr.beside _ (Ne.symm hrq) _⟩
                · rw [List.length_set, ← HLL.out]; exact hcap)
              have hi0 : (0 : Int) ≤ 2 * (gn : Int) + 1 + (nn : Int) := by omega
              have hi1 : 2 * (gn : Int) + 1 + (nn : Int) < (L : Int) := by omega
              have hi2 : (2 * (gn : Int) + 1 + (nn : Int)).toNat = 2 * gn + 1 + nn := by omega
              clear hO2 hG2 hB2 hK2 hF2 hlay2 hgb hD5 hD6 hcap HS HDd HDu HQ2
              go_wp2_with fail
              go_ret
              exact ⟨rfl, _, bs, cs, HFin.out⟩
end
end Go.Proofs.YtoagghileebokaaGreatDoor.Sp
