/-
  Several texts in one: SpStore, SpDoes.
-/
import Derived.Test.YtdfnphgjjodfoaaGreatDoorG38
import Derived.Test.YtdfnphgjjodfoaaGreatDoorG03
import Derived.Deep.RegionWith
/-
  A word is laid into a slot: what becomes of a space; a view of one of its objects.
-/
namespace Go.Proofs.YtdfnphgjjodfoaaGreatDoor.Sp
open Go.RowKit Go.Proofs.YtdfnphgjjodfoaaGreatDoor.Ar Go.Proofs.YtdfnphgjjodfoaaGreatDoor.Sh
open Go.Proofs.YtdfnphgjjodfoaaGreatDoor.Hd (Hd Fields fitE ofL fitL wordI)
open Go.Proofs.YtdfnphgjjodfoaaGreatDoor.Tb (Ty sizeE sizeT getT hasT)
set_option linter.unusedVariables false
theorem facts_size {ws : List Int} {l : List Ty} {g : Int} (hT : ∀ x ∈ l, x.ok ∧ x.fit) (h : ofE ws l g = 0) : 0 ≤ g ∧ 0 ≤ ofS ws l g ∧ 2 * g + 1 + ofS ws l g ≤ 2 * (g + (hdH ws g).sz) ∧ g + (hdH ws g).sz ≤ (ws.length : Int) / 2 := by
  have S := stand_of h
  have hto : (ofT ws l g).ok := Tb.getT_ok hT (hdH ws g).ty
  obtain ⟨j0, j1⟩ := (inG_iff _ _ _).1 S.isin
  have hfit := S.fit
  unfold Hd.fitL fitE at hfit
  by_cases hc : (hdH ws g).can
  · rw [if_neg (by simpa using hc), if_neg (by simpa using S.tag)] at hfit
    have hne : ¬ (sizeE l (hdH ws g).ty (hdH ws g).ln ≠ 0 ∨ ofL l (hdH ws g).ty (hdH ws g).ln ≠ hdH ws g) := by
      intro hh
      rw [if_pos hh] at hfit
      cases hfit
    have he : sizeE l (hdH ws g).ty (hdH ws g).ln = 0 := Classical.byContradiction fun e => hne (.inl e)
    have ho : ofL l (hdH ws g).ty (hdH ws g).ln = hdH ws g := Classical.byContradiction fun e => hne (.inr e)
    have hhas : hasT l (hdH ws g).ty = true := by
      cases hx : hasT l (hdH ws g).ty with
      | true => rfl
      | false => unfold sizeE at he; rw [hx, if_neg (by decide)] at he; cases he
    have herr : Kd.err (ofT ws l g).k (ofT ws l g).wd (ofT ws l g).ms (hdH ws g).ln = 0 := by
      unfold sizeE at he
      rw [hhas] at he
      exact he
    obtain ⟨b0, b1⟩ := Kd.slots_bound herr
    have hsz : (hdH ws g).sz = Kd.sizeR (ofT ws l g).k (ofT ws l g).wd (ofT ws l g).ms (hdH ws g).ln := by
      rw [← ho]
      unfold Hd.ofL Hd.ofH
      rw [if_pos he]
      simp only
      unfold sizeT
      rw [hhas]
      rfl
    have hss : ofS ws l g = Kd.slots (ofT ws l g).k (ofT ws l g).wd (hdH ws g).ln := by unfold ofS Kd.slotsR; rw [if_pos herr]
    unfold Kd.sizeR at hsz
    rw [if_pos herr] at hsz
    rw [hss]
    omega
  · rw [if_pos hc] at hfit
    cases hfit


/-- The index of a slot's word. -/
def slotI (g n : Int) : Nat := (2 * g + 1 + n).toNat
theorem getD_set_ne (ws : List Int) (i k : Nat) (u : Int) (h : k ≠ i) : (ws.set i u).getD k 0 = ws.getD k 0 := by
  rw [List.getD_eq_getElem?_getD, List.getD_eq_getElem?_getD, List.getElem?_set_ne (fun e => h e.symm)]
theorem Snd.slot {ws : List Int} {l : List Ty} {bs : List Bool} {cs : List Cel} (h : Snd ws l bs cs) (hl : ∀ x ∈ l, x.ok ∧ x.fit) {c0 : Cel} (hc0 : c0 ∈ cs) (ht : c0.h.tg = 1) {n : Int} (n0 : 0 ≤ n) (n1 : n < ofS ws l c0.a) (u : Int) : Snd (ws.set (slotI c0.a n) u) l bs cs := by
  obtain ⟨hE, hH⟩ := obj_of h.tiled (Int.le_refl _) (Int.le_refl _) hc0 ht
  obtain ⟨f1, f2, f3, f4⟩ := facts_size hl hE
  rw [hH] at f3 f4
  have hlen : (ws.set (slotI c0.a n) u).length = ws.length := List.length_set ..
  refine ⟨?_, h.agree, by rw [gran_eq hlen]; exact h.len, h.neat, by rw [hlen]; exact h.short⟩
  rw [gran_eq hlen]
  refine h.tiled.keep fun c hc => ?_
  have hcb := h.tiled.mem c hc
  have hcs := can_sz hcb.2.2.1
  unfold atG
  refine getD_set_ne _ _ _ _ ?_
  unfold slotI
  intro e
  -- the cells begin at unlike granules
  obtain ⟨A, D, hAD⟩ := List.append_of_mem hc0
  have hT := h.tiled
  rw [hAD] at hT hc
  obtain ⟨m, t1, t2⟩ := Tiled.split hT
  have hm : c0.a = m := t2.1
  rcases List.mem_append.1 hc with hc | hc
  · obtain ⟨_, b2, _⟩ := t1.mem c hc
    omega
  · rcases List.mem_cons.1 hc with rfl | hc
    · omega
    · have := (Tiled.mem t2.2.2.2.2 c hc).1
      omega
section
variable {w x : World} {s : Ids} {r : Nat} {B : Option Addr} {d : Nat} {l : List Ty} {ws wd : List Int} {bs : List Bool} {cs : List Cel}
/-- A view of an object of the space. -/
theorem duo_view (h : Duo w x s r B d l ws bs cs wd) (g : Int) (g0 : -9223372036854775808 ≤ g) (g1 : g ≤ 9223372036854775807) (he : ofE ws l g = 0) :
    Calls Tryz.prog 20 #[.pointer (some ⟨s.ap, 0, none⟩), .pointer (some ⟨s.tp, 0, none⟩), .int .i64 g] x fun e y => ∃ v, e = .returned (.tuple #[.pointer (some ⟨v, 0, none⟩), .int .i64 0]) ∧ Sh.View y v s.ap g (hdH ws g) (ofT ws l g) (ofS ws l g) ∧ Kept [] x y := by
  obtain ⟨m, a⟩ := h.mine.spc.ar
  refine (of_ok h.mine.glob.f a h.mine.spc.wds h.mine.spc.tab g g0 g1).mono ?_
  rintro e y ⟨hk, ⟨h1, _⟩ | ⟨_, v, h2, h3, h4⟩⟩
  · exact absurd he h1
  · exact ⟨v, h2, h4, hk⟩
/-- A word is laid into a slot of an object of the space. -/
theorem duo_store (h : Duo w x s r B d l ws bs cs wd) {c : Cel} (hc : c ∈ cs) (ht : c.h.tg = 1) {v : Nat} (hv : Sh.View x v s.ap c.a (hdH ws c.a) (ofT ws l c.a) (ofS ws l c.a)) (n u : Int) (n0 : 0 ≤ n) (n1 : n < ofS ws l c.a) (u0 : 0 ≤ u) (u1 : u < 18446744073709551616) :
    Calls Tryz.prog 63 #[.pointer (some ⟨v, 0, none⟩), .int .i64 n, .int .u64 u] x fun e y => e = .returned (.int .i64 0) ∧ Duo w y s r B d l (ws.set (slotI c.a n) u) bs cs wd ∧ Kept (r :: s.turn) x y := by
  obtain ⟨m, a⟩ := h.mine.spc.ar
  have hall := h.mine.spc.tab.all
  obtain ⟨hE, hH⟩ := obj_of h.mine.snd.tiled (Int.le_refl _) (Int.le_refl _) hc ht
  obtain ⟨f1, f2, f3, f4⟩ := facts_size hall hE
  refine (vstore_ok hv a n u f1 f2 (by omega)).mono ?_
  rintro e y ⟨he, ha, hk⟩
  have hE2 : slotE (ofS ws l c.a) n = 0 := if_pos ⟨n0, n1⟩
  have hP : vput ws c.a (ofS ws l c.a) n u = ws.set (slotI c.a n) u := if_pos ⟨n0, n1⟩
  rw [hE2] at he
  rw [hP] at ha
  have hkt : Kept s.turn x y := hk.mono (fun i hi => by simp [Ids.turn] at hi ⊢; rcases hi with rfl | rfl <;> simp)
  refine ⟨he, h.ours hkt (h.mine.turned hkt (h.mine.spc.arena hk ha (h.mine.spc.wm.set _ u ⟨u0, u1⟩)) (h.mine.snd.slot hall hc ht n0 n1 u)), up hkt⟩
end
/-- A law's space and the document's, alike. -/
def Twin (w x : World) (s : Ids) (r : Nat) (B : Option Addr) (d : Nat) (l : List Ty) : Prop := ∃ ws bs cs, Duo w x s r B d l ws bs cs ws
theorem Twin.keep0 {w x y : World} {s : Ids} {r : Nat} {B : Option Addr} {d : Nat} {l : List Ty} (h : Twin w x s r B d l) (k : Kept [] x y) : Twin w y s r B d l := let ⟨ws, bs, cs, h⟩ := h; ⟨ws, bs, cs, h.keep0 k⟩
end Go.Proofs.YtdfnphgjjodfoaaGreatDoor.Sp

/-
  The contract of the law's Does: a step, of a space and of the document's.
-/
namespace Go.Proofs.YtdfnphgjjodfoaaGreatDoor.Ir
open Go.RowKit Go.Proofs.YtdfnphgjjodfoaaGreatDoor.Ar
/-- append of a row of numbers, at a step of a region that draws its order. -/
theorem step_append_ints {w : World} {ops : Array Oper} {o : Oper} {a : Act} {K : Act → World → Prop} {Q : Exit → Act → World → Prop} {E : Prop} (hgd : o.guard = none) (s x : Operand)
    (ho : o.op = .call { callee := .builtin .append, args := #[s, x], argTypes := #[48, 48] })
    (v : Value) (l : List Int) (hs : a.eval s = v) (hown : Ir.Own w v l) (A : Option Addr) (m c : Nat) (news : List Int) (hx : a.eval x = .slice A m c) (hm : m = news.length) (hnil : A = none → c = 0) (hseen : Ir.Seen w A news)
    (hb : l.length + news.length ≤ 1073741824)
    (h : ∀ v' w', Ir.Own w' v' (l ++ news) → w.grownBy w' v.ownBlock → (v'.ownBlock = v.ownBlock ∨ v'.ownBlock = some w.heap.size) → K (a.put o.dst v') w') :
    if Region.wanted o (yielded ops a.tmps) = true then Oper.wp Tryz.prog o a w K Q else E := by
  have hw : Region.wanted o (yielded ops a.tmps) = true := by simp [Region.wanted, hgd]
  rw [if_pos hw]
  subst hm
  obtain ⟨i0, hi, hz0, hz1, hz2⟩ := info_parts info_i64
  cases A with
  | none =>
    have hn : news = [] := by
      cases news with
      | nil => rfl
      | cons y ys =>
        obtain ⟨g, f, e, _⟩ := hseen (by simp)
        cases e
    subst hn
    obtain rfl := hnil rfl
    have hr := run_append_owned_none (P := Tryz.prog) (w := w) 0 48 o.type 3 i0 1 Tryz.underlying48 hi v l.length (ints l) hown
    unfold Oper.wp execOp
    simp only [ho, resolve, invoke, builtin, Sem.run_bind, Sem.run_pure, Result.andThen_ok, List.map_toArray, List.map_cons, List.map_nil, hs, hx, List.length_nil, hr]
    exact h v w (by rw [List.append_nil]; exact hown) (World.grownBy.refl w _) (.inl rfl)
  | some ad =>
    obtain ⟨v', w', hr, h2, h3, h4, h5⟩ := run_append_own_at (P := Tryz.prog) w 0 48 o.type 3 i0 (.int .i64 0) 1 8 Tryz.underlying48 hi hz0 hz1 hz2 rfl (by decide) v l.length (ints l) hown ad news.length c (ints news) (by rw [ints_length, Nat.mul_one]) (fun j u hu => by
      by_cases hne : news = []
      · subst hne; cases hu
      · obtain ⟨g, f, e, _, hc⟩ := hseen hne
        obtain rfl := Option.some.inj e
        rw [add_at]
        exact hc j u hu) (ints_one news) (by unfold maxLen; omega) (by omega) (Nat.zero_le _)
    unfold Oper.wp execOp
    simp only [ho, resolve, invoke, builtin, Sem.run_bind, Sem.run_pure, Result.andThen_ok, List.map_toArray, List.map_cons, List.map_nil, hs, hx, hr]
    refine h v' w' ?_ h3 h5
    unfold Own ints at *
    rw [List.length_append, List.map_append]
    exact h2
end Go.Proofs.YtdfnphgjjodfoaaGreatDoor.Ir
namespace Go.Proofs.YtdfnphgjjodfoaaGreatDoor.Sp
open Go.RowKit Go.Proofs.YtdfnphgjjodfoaaGreatDoor.Ar Go.Proofs.YtdfnphgjjodfoaaGreatDoor.Sh Go.Sort
open Go.Proofs.YtdfnphgjjodfoaaGreatDoor.Hd (Hd Fields cells4 free4 fitL)
open Go.Proofs.YtdfnphgjjodfoaaGreatDoor.Tb (Ty Tab)
open Go.Proofs.YtdfnphgjjodfoaaGreatDoor.Wd (Table)
set_option linter.unusedVariables false
theorem objAt_mem {g : Int} : ∀ {A cs P Q : List Cel} {c : Cel}, objAt A cs g = some (P, c, Q) → c ∈ cs ∧ c.a = g ∧ c.h.tg = 1
  | _, [], _, _, _, h => by cases h
  | A, x :: cs, P, Q, c, h => by
    unfold objAt at h
    split at h
    · rename_i hc
      injection h with h
      injection h with h1 h2
      injection h2 with h2 h3
      subst h2
      exact ⟨List.mem_cons_self, hc.1, hc.2⟩
    · obtain ⟨h1, h2⟩ := objAt_mem h
      exact ⟨List.mem_cons_of_mem _ h1, h2⟩
theorem slots_obj {ws : List Int} {l : List Ty} {cs : List Cel} {g : Int} (h : 0 < slotsV ws l cs g) : ∃ c ∈ cs, c.a = g ∧ c.h.tg = 1 ∧ slotsV ws l cs g = ofS ws l g := by
  unfold slotsV at *
  cases ho : objAt [] cs g with
  | none => rw [ho] at h; simp at h
  | some t =>
    obtain ⟨P, c, Q⟩ := t
    obtain ⟨h1, h2, h3⟩ := objAt_mem ho
    exact ⟨c, h1, h2, h3, by simp⟩
section
variable {w x : World} {s : Ids} {r : Nat} {B : Option Addr} {d : Nat} {l : List Ty}

set_option maxRecDepth 100000 in
set_option maxHeartbeats 16000000 in
theorem does_ok (h : Twin w x s r B d l) (hT : Tb.Seen w B l) (st : Stp) (hok : st.ok) (hu : 0 ≤ st.u ∧ st.u < 18446744073709551616) (gs : List Int) (hgl : gs.length = st.len) (hgs : Ir.Seen w st.A gs) (hgI : ∀ g ∈ gs, I64 g) (hgn : st.A = none → st.cap = 0) (hgm : gs.length ≤ 300)
    (hJ : ∀ y, Twin w y s r B d l → Calls Tryz.prog 66 #[.pointer (some ⟨s.sp, 0, none⟩), .pointer (some ⟨r, 0, none⟩), .agg #[.int .i64 st.d, .int .i64 st.g, .int .i64 st.i, .int .i64 st.n, .int .u64 st.u, .slice st.A st.len st.cap]] y fun e z => e = .returned (.bool true) ∧ Twin w z s r B d l) :
    Calls Tryz.prog 28 #[.pointer (some ⟨s.sp, 0, none⟩), .pointer (some ⟨r, 0, none⟩), .agg #[.int .i64 st.d, .int .i64 st.g, .int .i64 st.i, .int .i64 st.n, .int .u64 st.u, .slice st.A st.len st.cap]] x fun e y => e = .returned (.bool true) ∧ Twin w y s r B d l := by
  obtain ⟨ws, bs, cs, h0⟩ := h
  obtain ⟨d0, d1, d2, d3, _⟩ := hok
  obtain ⟨sd, sg, si, sn, su, sA, slen, scap⟩ := st
  unfold I64 at d0 d1 d2 d3
  simp only at *
  subst hgl
  have hf := fit_of h0.mine hT
  have HTs := Lib.hid hT
  have hb := Has.new x 65 [.int .i64 sd, .int .i64 sg, .int .i64 si, .int .i64 sn, .int .u64 su, .slice sA gs.length scap]
  have hk : Kept [] x (x.alloc (.cells #[.int .i64 sd, .int .i64 sg, .int .i64 si, .int .i64 sn, .int .u64 su, .slice sA gs.length scap] 65)) := (Kept.refl [] x).alloc _
  have h1 := h0.keep0 hk
  have HF := Lib.hid hf
  have HGs := Lib.hid hgs
  have HGI := Lib.hid hgI
  clear hf h0 hk hT hgs hgI
  obtain ⟨x1, hx1⟩ : ∃ x1, x.alloc (.cells #[.int .i64 sd, .int .i64 sg, .int .i64 si, .int .i64 sn, .int .u64 su, .slice sA gs.length scap] 65) = x1 := ⟨_, rfl⟩
  have hb1 : Has x1 x.heap.size 65 [.int .i64 sd, .int .i64 sg, .int .i64 si, .int .i64 sn, .int .u64 su, .slice sA gs.length scap] := by rw [← hx1]; exact hb
  rw [hx1] at h1
  have q0 := hb1.cell 0
  have q1 := hb1.cell 1
  have q2 := hb1.cell 2
  have q3 := hb1.cell 3
  have q4 := hb1.cell 4
  have q5 := hb1.cell 5
  simp only [List.getElem?_cons_zero, List.getElem?_cons_succ] at q0 q1 q2 q3 q4 q5
  have HCl : Hid (∀ z : World, z.heap[x.heap.size]? = x1.heap[x.heap.size]? → z.cell? ⟨x.heap.size, 1, none⟩ = some (.int .i64 sg) ∧ z.cell? ⟨x.heap.size, 2, none⟩ = some (.int .i64 si) ∧ z.cell? ⟨x.heap.size, 3, none⟩ = some (.int .i64 sn) ∧ z.cell? ⟨x.heap.size, 4, none⟩ = some (.int .u64 su) ∧ z.cell? ⟨x.heap.size, 5, none⟩ = some (.slice sA gs.length scap)) := Lib.hid fun z hz =>
    ⟨(World.cell?_of_block (w := x1) hz).trans q1, (World.cell?_of_block (w := x1) hz).trans q2, (World.cell?_of_block (w := x1) hz).trans q3, (World.cell?_of_block (w := x1) hz).trans q4, (World.cell?_of_block (w := x1) hz).trans q5⟩
  have HLt : Hid (∀ z : World, z.heap[x.heap.size]? = x1.heap[x.heap.size]? → x.heap.size < z.heap.size) := Lib.hid fun z hz => by
    have : Has z x.heap.size 65 [.int .i64 sd, .int .i64 sg, .int .i64 si, .int .i64 sn, .int .u64 su, .slice sA gs.length scap] := hz.trans hb1
    exact this.lt
  have HNb : Hid (∀ z : World, ∀ {wp bp cp wd}, Duo w z s r B d l wp bp cp wd → z.heap[x.heap.size]? = x1.heap[x.heap.size]? → x.heap.size ∉ r :: s.turn) := Lib.hid fun z wp bp cp wd hz hz5 hm => by
    have h5 : Has z x.heap.size 65 [.int .i64 sd, .int .i64 sg, .int .i64 si, .int .i64 sn, .int .u64 su, .slice sA gs.length scap] := hz5.trans hb1
    obtain ⟨q, cap, hd, _⟩ := hz.doc
    rcases List.mem_cons.1 hm with hm | hm
    · exact Has.block_type h5 hd.head (by decide) hm
    · exact hz.mine.spc.beside h5 (by decide) (by decide) (by decide) hm
  have H0 := Lib.hid h1
  clear hb hb1 h1
  go_enter Tryz.func28, Tryz.ntmps28
  rw [← hx1] at q0
  have HJ := Lib.hid hJ
  clear hJ
  have hq0 := q0
  rw [hx1] at q0
  by_cases e0 : sd = 0
  · subst e0
    have hb0 : ((0 : Int) == 0) = true := rfl
    clear HJ
    go_wp2_with fail
    try simp only [hx1]
    clear hx1
    generalize x.heap.size = b5 at *
    have CP : Hid (∀ (y0 y : World) (wd : List Int), (Duo w y0 s r B d l ws bs cs wd ∧ y0.heap[b5]? = x1.heap[b5]?) → Kept [] y0 y → Calls Tryz.prog 27 #[.pointer (some ⟨s.sp, 0, none⟩), .int .i64 sg, .int .i64 si, .int .i64 sn] y fun e z => e = .returned (.int .i64 (putE ws l cs sg si sn)) ∧ ∃ bp cp, Hid (Duo w z s r B d l (putX ws l cs sg si sn) bp cp wd ∧ z.heap[b5]? = x1.heap[b5]?) ∧ z.cell? ⟨b5, 1, none⟩ = some (.int .i64 sg) ∧ z.cell? ⟨b5, 2, none⟩ = some (.int .i64 si) ∧ z.cell? ⟨b5, 3, none⟩ = some (.int .i64 sn)) := Lib.hid fun y0 y wd hq k => by
      have hy : y.heap[b5]? = x1.heap[b5]? := (k.old b5 (HLt.out y0 hq.2) (by simp)).trans hq.2
      refine (duo_put (hq.1.keep0 k)  sg si sn d1.1 d1.2 d2.1 d2.2).mono ?_
      rintro e z ⟨he, ⟨bp, cp, hz⟩, hk⟩
      have hz5 : z.heap[b5]? = x1.heap[b5]? := (hk.old b5 (HLt.out y hy) (HNb.out y (hq.1.keep0 k) hy)).trans hy
      exact ⟨he, bp, cp, Lib.hid ⟨hz, hz5⟩, (HCl.out _ hz5).1, (HCl.out _ hz5).2.1, (HCl.out _ hz5).2.2.1⟩
    have CD : Hid (∀ (y0 y : World) (wp : List Int) (bp : List Bool) (cp : List Cel), (Duo w y0 s r B d l wp bp cp ws ∧ y0.heap[b5]? = x1.heap[b5]?) → Kept [] y0 y → Calls Tryz.prog 59 #[.pointer (some ⟨r, 0, none⟩), .int .i64 sg, .int .i64 si, .int .i64 sn] y fun e z => e = .returned (.int .i64 (putE ws l cs sg si sn)) ∧ Hid (Duo w z s r B d l wp bp cp (putX ws l cs sg si sn) ∧ z.heap[b5]? = x1.heap[b5]?) ∧ z.cell? ⟨b5, 1, none⟩ = some (.int .i64 sg) ∧ z.cell? ⟨b5, 2, none⟩ = some (.int .i64 si) ∧ z.cell? ⟨b5, 3, none⟩ = some (.int .i64 sn)) := Lib.hid fun y0 y wp bp cp hq k => by
      have hy : y.heap[b5]? = x1.heap[b5]? := (k.old b5 (HLt.out y0 hq.2) (by simp)).trans hq.2
      refine (duo_sput (hq.1.keep0 k) HF.out  sg si sn d1.1 d1.2 d2.1 d2.2).mono ?_
      rintro e z ⟨he, hz, hk⟩
      have hz5 : z.heap[b5]? = x1.heap[b5]? := (hk.old b5 (HLt.out y hy) (HNb.out y (hq.1.keep0 k) hy)).trans hy
      exact ⟨he, Lib.hid ⟨hz, hz5⟩, (HCl.out _ hz5).1, (HCl.out _ hz5).2.1, (HCl.out _ hz5).2.2.1⟩
    generalize putE ws l cs sg si sn = er at *
    generalize putX ws l cs sg si sn = W1 at *
    go_region_held3 (fun y => y.cell? ⟨b5, 1, none⟩ = some (.int .i64 sg) ∧ y.cell? ⟨b5, 2, none⟩ = some (.int .i64 si) ∧ y.cell? ⟨b5, 3, none⟩ = some (.int .i64 sn)) (go_keep)
      (first
        | (go_at_call 27; (first | (refine (CP.out _ _ _ hD1.out ?_).mono ?_; (first | exact Kept.refl _ _ | exact (Kept.refl _ _).drew | exact (Kept.refl _ _).drewN _); rintro e z2 ⟨rfl, bp2, cp2, hF2, w1, w2, w3⟩) | (refine (CP.out _ _ _ ⟨H0.out, rfl⟩ ?_).mono ?_; (first | exact Kept.refl _ _ | exact (Kept.refl _ _).drew | exact (Kept.refl _ _).drewN _); rintro e z1 ⟨rfl, bp1, cp1, hP1, w1, w2, w3⟩)))
        | (go_at_call 59; (first | (refine (CD.out _ _ _ _ _ hP1.out ?_).mono ?_; (first | exact Kept.refl _ _ | exact (Kept.refl _ _).drew | exact (Kept.refl _ _).drewN _); rintro e z2 ⟨rfl, hF3, w1, w2, w3⟩) | (refine (CD.out _ _ _ _ _ ⟨H0.out, rfl⟩ ?_).mono ?_; (first | exact Kept.refl _ _ | exact (Kept.refl _ _).drew | exact (Kept.refl _ _).drewN _); rintro e z1 ⟨rfl, hD1, w1, w2, w3⟩))))
    all_goals
      clear w1 w2 w3
      go_wp2_with fail
      go_ret
      first
      | exact ⟨rfl, _, _, _, hF2.out.1⟩
      | exact ⟨rfl, _, _, _, hF3.out.1⟩
  · by_cases e1 : sd = 1
    · subst e1
      have hb0 : ((1 : Int) == 0) = false := rfl
      have hb1 : ((1 : Int) == 1) = true := rfl
      clear HJ e0
      go_wp2_with fail
      clear hx1
      generalize x.heap.size = b5 at *
      have CP : Hid (∀ (y0 y : World) (wd : List Int), (Duo w y0 s r B d l ws bs cs wd ∧ y0.heap[b5]? = x1.heap[b5]?) → Kept [] y0 y → Calls Tryz.prog 60 #[.pointer (some ⟨s.sp, 0, none⟩), .int .i64 sg] y fun e z => e = .returned (.int .i64 (dropE cs sg)) ∧ ∃ bp cp, Hid (Duo w z s r B d l (dropX ws cs sg) bp cp wd ∧ z.heap[b5]? = x1.heap[b5]?) ∧ z.cell? ⟨b5, 1, none⟩ = some (.int .i64 sg)) := Lib.hid fun y0 y wd hq k => by
        have hy : y.heap[b5]? = x1.heap[b5]? := (k.old b5 (HLt.out y0 hq.2) (by simp)).trans hq.2
        refine (duo_drop (hq.1.keep0 k)  sg d1.1 d1.2).mono ?_
        rintro e z ⟨he, ⟨bp, cp, hz⟩, hk⟩
        have hz5 : z.heap[b5]? = x1.heap[b5]? := (hk.old b5 (HLt.out y hy) (HNb.out y (hq.1.keep0 k) hy)).trans hy
        exact ⟨he, bp, cp, Lib.hid ⟨hz, hz5⟩, (HCl.out _ hz5).1⟩
      have CD : Hid (∀ (y0 y : World) (wp : List Int) (bp : List Bool) (cp : List Cel), (Duo w y0 s r B d l wp bp cp ws ∧ y0.heap[b5]? = x1.heap[b5]?) → Kept [] y0 y → Calls Tryz.prog 61 #[.pointer (some ⟨r, 0, none⟩), .int .i64 sg] y fun e z => e = .returned (.int .i64 (dropE cs sg)) ∧ Hid (Duo w z s r B d l wp bp cp (dropX ws cs sg) ∧ z.heap[b5]? = x1.heap[b5]?) ∧ z.cell? ⟨b5, 1, none⟩ = some (.int .i64 sg)) := Lib.hid fun y0 y wp bp cp hq k => by
        have hy : y.heap[b5]? = x1.heap[b5]? := (k.old b5 (HLt.out y0 hq.2) (by simp)).trans hq.2
        refine (duo_sdrop (hq.1.keep0 k) HF.out  sg d1.1 d1.2).mono ?_
        rintro e z ⟨he, hz, hk⟩
        have hz5 : z.heap[b5]? = x1.heap[b5]? := (hk.old b5 (HLt.out y hy) (HNb.out y (hq.1.keep0 k) hy)).trans hy
        exact ⟨he, Lib.hid ⟨hz, hz5⟩, (HCl.out _ hz5).1⟩
      generalize dropE cs sg = er at *
      generalize dropX ws cs sg = W1 at *
      go_wp2_with fail
      go_region_held3 (fun y => y.cell? ⟨b5, 1, none⟩ = some (.int .i64 sg)) (go_keep)
        (first
          | (go_at_call 60; (first | (refine (CP.out _ _ _ hD1.out ?_).mono ?_; (first | exact Kept.refl _ _ | exact (Kept.refl _ _).drew | exact (Kept.refl _ _).drewN _); rintro e z2 ⟨rfl, bp2, cp2, hF2, w1⟩) | (refine (CP.out _ _ _ ⟨H0.out, rfl⟩ ?_).mono ?_; (first | exact Kept.refl _ _ | exact (Kept.refl _ _).drew | exact (Kept.refl _ _).drewN _); rintro e z1 ⟨rfl, bp1, cp1, hP1, w1⟩)))
          | (go_at_call 61; (first | (refine (CD.out _ _ _ _ _ hP1.out ?_).mono ?_; (first | exact Kept.refl _ _ | exact (Kept.refl _ _).drew | exact (Kept.refl _ _).drewN _); rintro e z2 ⟨rfl, hF3, w1⟩) | (refine (CD.out _ _ _ _ _ ⟨H0.out, rfl⟩ ?_).mono ?_; (first | exact Kept.refl _ _ | exact (Kept.refl _ _).drew | exact (Kept.refl _ _).drewN _); rintro e z1 ⟨rfl, hD1, w1⟩))))
      all_goals
        clear w1
        go_wp2_with fail
        go_ret
        first
        | exact ⟨rfl, _, _, _, hF2.out.1⟩
        | exact ⟨rfl, _, _, _, hF3.out.1⟩
    · by_cases e2 : sd = 2
      · subst e2
        have hb0 : ((2 : Int) == 0) = false := rfl
        have hb1 : ((2 : Int) == 1) = false := rfl
        have hb2 : ((2 : Int) == 2) = true := rfl
        clear HJ e0 e1
        obtain ⟨q, cap, hd, hq⟩ := H0.out.doc
        have HSl := Lib.hid (slots_ok hd (HF.out.keep0 H0.out.mine.kept) sg)
        clear hd hq
        go_wp2_with fail
        clear hx1
        generalize x.heap.size = b5 at *
        refine HSl.out.mono ?_
        rintro e x2 ⟨rfl, k2⟩
        have hx2 : x2.heap[b5]? = x1.heap[b5]? := k2.old b5 (HLt.out x1 rfl) (by simp)
        obtain ⟨w1, w2, w3, w4, w5⟩ := HCl.out x2 hx2
        have H2 := Lib.hid (H0.out.keep0 k2)
        have HX2 := Lib.hid hx2
        have HOb := Lib.hid (fun (h : 0 < slotsV ws l cs sg) => slots_obj (ws := ws) (l := l) h)
        clear k2 hx2 HSl H0 q0 q1 q2 q3 q4 q5
        obtain ⟨nv, hnv⟩ : ∃ nv, nv = slotsV ws l cs sg := ⟨_, rfl⟩
        rw [← hnv] at HOb ⊢
        have HNv := Lib.hid hnv
        clear hnv
        by_cases hn0 : sn < 0
        · clear HOb
          go_wp2_with fail
          go_ret
          exact ⟨rfl, ws, bs, cs, H2.out⟩
        · by_cases hn1 : nv ≤ sn
          · clear HOb
            go_wp2_with fail
            go_ret
            exact ⟨rfl, ws, bs, cs, H2.out⟩
          · obtain ⟨c, hc, hca, hct, hcs⟩ := HOb.out (by omega)
            have hob := obj_of H2.out.mine.snd.tiled (Int.le_refl _) (Int.le_refl _) hc hct
            have hfs := facts_size HF.out.ok hob.1
            rw [hob.2] at hfs
            subst hca
            have hsn : sn < ofS ws l c.a := by omega
            have hL : ws.length ≤ 65536 := HF.out.short
            obtain ⟨f1, f2, f3, f4⟩ := hfs
            have CAr : Hid (∀ y, Kept [] x2 y → Calls Tryz.prog 21 #[.pointer (some ⟨s.sp, 0, none⟩)] y fun e z => e = .returned (.pointer (some ⟨s.ap, 0, none⟩)) ∧ y = z) := Lib.hid fun y k => arena_ok (H2.out.keep0 k).mine.spc
            have CTb : Hid (∀ y, Kept [] x2 y → Calls Tryz.prog 22 #[.pointer (some ⟨s.sp, 0, none⟩)] y fun e z => e = .returned (.pointer (some ⟨s.tp, 0, none⟩)) ∧ y = z) := Lib.hid fun y k => table_ok (H2.out.keep0 k).mine.spc
            have CV : Hid (∀ y, Kept [] x2 y → Calls Tryz.prog 20 #[.pointer (some ⟨s.ap, 0, none⟩), .pointer (some ⟨s.tp, 0, none⟩), .int .i64 c.a] y fun e z => ∃ v, e = .returned (.tuple #[.pointer (some ⟨v, 0, none⟩), .int .i64 0]) ∧ Hid (Sh.View z v s.ap c.a (hdH ws c.a) (ofT ws l c.a) (ofS ws l c.a) ∧ Kept [] x2 z) ∧ z.cell? ⟨b5, 1, none⟩ = some (.int .i64 c.a)) := Lib.hid fun y k => by
              refine (duo_view (H2.out.keep0 k) c.a (by omega) (by omega) hob.1).mono ?_
              rintro e z ⟨v, he, hv, hk⟩
              exact ⟨v, he, Lib.hid ⟨hv, k.trans hk⟩, (HCl.out z (((k.trans hk).old b5 (HLt.out x2 HX2.out) (by simp)).trans HX2.out)).1⟩
            have HSt : Hid (∀ z v, Kept [] x2 z → Sh.View z v s.ap c.a (hdH ws c.a) (ofT ws l c.a) (ofS ws l c.a) → Calls Tryz.prog 63 #[.pointer (some ⟨v, 0, none⟩), .int .i64 sn, .int .u64 su] z fun e y => e = .returned (.int .i64 0) ∧ Duo w y s r B d l (ws.set (slotI c.a sn) su) bs cs ws ∧ Kept (r :: s.turn) z y) := Lib.hid fun z v k hv => duo_store (H2.out.keep0 k) hc hct hv sn su (by omega) hsn hu.1 hu.2
            have hx0 : Kept [] x2 x2 := Kept.refl _ _
            clear hob hc hct hcs HOb HF
            generalize ofS ws l c.a = sv at *
            generalize ofT ws l c.a = tv at *
            generalize hdH ws c.a = hv at *
            obtain ⟨gn, hgn⟩ := Int.eq_ofNat_of_zero_le f1
            obtain ⟨nn, hnn⟩ := Int.eq_ofNat_of_zero_le (show 0 ≤ sn by omega)
            have hI : Hid (slotI c.a sn = 2 * gn + 1 + nn) := Lib.hid (by unfold slotI; omega)
            have hIl : 2 * gn + 1 + nn < ws.length := by omega
            generalize slotI c.a sn = I at *
            generalize c.h.sz = zv at *
            generalize c.a = ca at *
            subst hgn hnn
            go_wp2_with fail
            go_region_held3 (fun y => y.cell? ⟨b5, 1, none⟩ = some (.int .i64 (gn : Int))) (go_keep)
              (first
                | (go_at_call 21; refine (CAr.out _ ?_).mono ?_; (first | exact hx0.drew | exact hx0 | exact hx0.drewN _); rintro e z ⟨rfl, rfl⟩)
                | (go_at_call 22; refine (CTb.out _ ?_).mono ?_; (first | exact hx0.drew | exact hx0 | exact hx0.drewN _); rintro e z ⟨rfl, rfl⟩)
                | (go_at_call 20; refine (CV.out _ ?_).mono ?_; (first | exact hx0.drew | exact hx0 | exact hx0.drewN _); rintro e z1 ⟨v, rfl, hvv, r1⟩))
            all_goals
              have hkz := hvv.out.2
              have HSz := Lib.hid (HSt.out z1 v hkz hvv.out.1)
              have hz5 : z1.heap[b5]? = x1.heap[b5]? := (hkz.old b5 (HLt.out x2 HX2.out) (by simp)).trans HX2.out
              clear w1 w2 w3 w4 w5 r1
              obtain ⟨w1, w2, w3, w4, w5⟩ := HCl.out z1 hz5
              have HZ5 := Lib.hid hz5
              have HKz := Lib.hid hkz
              clear hkz hvv hz5 HSt CAr CTb CV hx0
              go_wp2_with fail
              refine HSz.out.mono ?_
              rintro e z2 ⟨rfl, hD, kd⟩
              have hy5 : z2.heap[b5]? = x1.heap[b5]? := (kd.old b5 (HLt.out z1 HZ5.out) (HNb.out z1 (H2.out.keep0 HKz.out) HZ5.out)).trans HZ5.out
              clear w1 w2 w3 w4 w5
              obtain ⟨w1, w2, w3, w4, w5⟩ := HCl.out z2 hy5
              obtain ⟨q2, cap2, hd2, hq2⟩ := hD.doc
              obtain ⟨c0, c1, f0⟩ := hd2.cells
              have hne : ws ≠ [] := by rintro rfl; simp at hIl
              have HS := Lib.hid hd2.row.seen
              have HDd := Lib.hid hd2
              have HDu := Lib.hid hD
              have HQ2 := Lib.hid hq2
              have HNe := Lib.hid hne
              have HY5 := Lib.hid hy5
              clear kd hy5 hD hd2 hq2 hne HSz
              obtain ⟨L, hLL⟩ : ∃ L, L = ws.length := ⟨_, rfl⟩
              rw [← hLL] at hL hIl c0
              have HLL := Lib.hid hLL
              clear hLL
              go_wp2_with (at_builtin; (refine append_words rfl (.const (.slice none 0 0)) (.tmp 86) rfl (.slice none 0 0) [] rfl (Ar.Own.nil _) (some ⟨q2, 0, none⟩) L cap2 ws rfl HLL.out.symm (fun h => by cases h) HS.out (show 0 + L ≤ 1073741824 by omega) ?_))
              intro v2 x5 hO2 hG2 hB2
              have hK2 : Kept [] z2 x5 := own_grown (Kept.refl [] z2) (.inl rfl) hG2
              have hF2 := own_fresh (Kept.refl [] z2) (.inl rfl) hB2
              obtain ⟨gb, cap3, rfl, hcap, hlay2⟩ := lay_of_own hO2 HNe.out
              have hgb : z2.heap.size ≤ gb := by
                rcases hF2 with h | ⟨b, h, hle⟩
                · cases h
                · injection h with h
                  rw [show gb = b from h]; exact hle
              rw [← HLL.out] at hcap ⊢
              have hD5 := HDd.out.keep0 hK2
              have hrq : r ≠ gb := by have := HDd.out.head.lt; omega
              have hD6 := hD5.head.beside ⟨gb, 2 * gn + 1 + nn, none⟩ hrq (.int .u64 su)
              have hc := hlay2.cell (2 * gn + 1 + nn) (by rw [← HLL.out]; omega)
              have hfz := hlay2.free (2 * gn + 1 + nn)
              clear c0 c1 f0
              have c0 := hD6.cell 0
              have f0 := hD6.free 0
              have HFin : Hid (Duo w ((x5.setCell ⟨gb, 2 * gn + 1 + nn, none⟩ (.int .u64 su)).setCell ⟨r, 0, none⟩ (.slice (some ⟨gb, 0, none⟩) L cap3)) s r B d l (ws.set I su) bs cs (ws.set I su)) := Lib.hid (by
                refine HDu.out.theirs HQ2.out ⟨gb, cap3, ⟨?_, ?_, ?_⟩, .inr hgb, ((hK2.none _).setCell _ _ (.inr hgb)).setCell _ _ (.inl (by simp))⟩
                · rw [List.length_set, ← HLL.out]
                  exact hD6.put 0 _
                · rw [hI.out]
                  obtain ⟨rest, hr⟩ := hlay2.put (2 * gn + 1 + nn) su (by rw [← HLL.out]; omega)
                  exact ⟨rest, hr.beside _ (Ne.symm hrq) _⟩
                · rw [List.length_set, ← HLL.out]; exact hcap)
              have hi0 : (0 : Int) ≤ 2 * (gn : Int) + 1 + (nn : Int) := by omega
              have hi1 : 2 * (gn : Int) + 1 + (nn : Int) < (L : Int) := by omega
              have hi2 : (2 * (gn : Int) + 1 + (nn : Int)).toNat = 2 * gn + 1 + nn := by omega
              clear w1 w2 w3 w4 w5
              obtain ⟨w1, w2, w3, w4, w5⟩ := HCl.out x5 ((hK2.old b5 (HLt.out z2 HY5.out) (by simp)).trans HY5.out)
              clear hO2 hG2 hB2 hK2 hF2 hlay2 hgb hD5 hD6 hcap HS HDd HDu HQ2
              go_wp2_with fail
              go_ret
              exact ⟨rfl, _, bs, cs, HFin.out⟩
      · by_cases e3 : sd = 3
        · subst e3
          have hb0 : ((3 : Int) == 0) = false := rfl
          have hb1 : ((3 : Int) == 1) = false := rfl
          have hb2 : ((3 : Int) == 2) = false := rfl
          have hb3 : ((3 : Int) == 3) = true := rfl
          clear HJ e0 e1 e2
          go_wp2_with fail
          clear hx1
          generalize x.heap.size = b5 at *
          have HIr : Hid (∀ g ∈ gs, -9223372036854775808 ≤ g ∧ g ≤ 9223372036854775807) := Lib.hid fun g hg => HGI.out g hg
          have HSeen : Hid (∀ (y0 y : World) (wp : List Int) (bp : List Bool) (cp : List Cel) (wd : List Int), (Duo w y0 s r B d l wp bp cp wd ∧ y0.heap[b5]? = x1.heap[b5]?) → Kept [] y0 y → Ir.Seen y sA gs) := Lib.hid fun y0 y wp bp cp wd hq k => HGs.out.keep0 (hq.1.mine.kept.trans k)
          have HApp : Hid (∀ (y0 y x7 : World) (v7 : Value) (wp : List Int) (bp : List Bool) (cp : List Cel) (wd : List Int), (Duo w y0 s r B d l wp bp cp wd ∧ y0.heap[b5]? = x1.heap[b5]?) → Kept [] y0 y → Ir.Own x7 v7 ([] ++ gs) → y.grownBy x7 (Value.slice none 0 0).ownBlock → Duo w x7 s r B d l wp bp cp wd ∧ x7.heap[b5]? = x1.heap[b5]? ∧ Ir.Own x7 v7 gs) := Lib.hid fun y0 y x7 v7 wp bp cp wd hq k o g => by
            have kk : Kept [] y0 x7 := own_grown k (.inl rfl) g
            rw [List.nil_append] at o
            exact ⟨hq.1.keep0 kk, (kk.old b5 (HLt.out y0 hq.2) (by simp)).trans hq.2, o⟩
          have CP : Hid (∀ (y0 y : World) (wd : List Int) (v : Value), (Duo w y0 s r B d l ws bs cs wd ∧ y0.heap[b5]? = x1.heap[b5]? ∧ Ir.Own y0 v gs) → Kept [] y0 y → Calls Tryz.prog 64 #[.pointer (some ⟨s.sp, 0, none⟩), v] y fun e z => e = .returned (.int .i64 (settleE ws l gs)) ∧ ∃ bp cp, Hid (Duo w z s r B d l (settleX ws l gs) bp cp wd ∧ z.heap[b5]? = x1.heap[b5]?) ∧ z.cell? ⟨b5, 5, none⟩ = some (.slice sA gs.length scap)) := Lib.hid fun y0 y wd v hq k => by
            have hy : y.heap[b5]? = x1.heap[b5]? := (k.old b5 (HLt.out y0 hq.2.1) (by simp)).trans hq.2.1
            obtain ⟨A, c, rfl, hbk⟩ := Ir.back_own (Kept.refl [] _) (hq.2.2.keep0 k)
            refine (duo_settle (hq.1.keep0 k) A gs c hbk.2.1 HIr.out (by omega)).mono ?_
            rintro e z ⟨he, ⟨bp, cp, hz⟩, hk⟩
            have hz5 : z.heap[b5]? = x1.heap[b5]? := (hk.old b5 (HLt.out y hy) (HNb.out y (hq.1.keep0 k) hy)).trans hy
            exact ⟨he, bp, cp, Lib.hid ⟨hz, hz5⟩, (HCl.out z hz5).2.2.2.2⟩
          have CD : Hid (∀ (y0 y : World) (wp : List Int) (bp : List Bool) (cp : List Cel), (Duo w y0 s r B d l wp bp cp ws ∧ y0.heap[b5]? = x1.heap[b5]?) → Kept [] y0 y → Calls Tryz.prog 65 #[.pointer (some ⟨r, 0, none⟩), .slice sA gs.length scap] y fun e z => e = .returned (.int .i64 (settleE ws l gs)) ∧ Hid (Duo w z s r B d l wp bp cp (settleX ws l gs) ∧ z.heap[b5]? = x1.heap[b5]?) ∧ Hid (∀ v, Ir.Own y0 v gs → Ir.Own z v gs) ∧ z.cell? ⟨b5, 5, none⟩ = some (.slice sA gs.length scap)) := Lib.hid fun y0 y wp bp cp hq k => by
            have hy : y.heap[b5]? = x1.heap[b5]? := (k.old b5 (HLt.out y0 hq.2) (by simp)).trans hq.2
            have hD := hq.1.keep0 k
            refine (duo_ssettle hD HF.out sA gs scap (HGs.out.keep0 hD.mine.kept) (by omega)).mono ?_
            rintro e z ⟨he, hz, hk⟩
            have hz5 : z.heap[b5]? = x1.heap[b5]? := (hk.old b5 (HLt.out y hy) (HNb.out y hD hy)).trans hy
            refine ⟨he, Lib.hid ⟨hz, hz5⟩, Lib.hid fun v hv => ?_, (HCl.out z hz5).2.2.2.2⟩
            refine (hv.keep0 k).kept hk fun g hg e => ?_
            obtain ⟨m, a⟩ := hD.mine.spc.ar
            obtain ⟨vs, bv, _⟩ := hD.mine.spc.bv
            obtain ⟨q, cap, hd, _⟩ := hD.doc
            simp [Ids.turn] at hg
            rcases hg with rfl | rfl | rfl | rfl
            · exact own_apart (hv.keep0 k) hd.head (by decide) e
            · exact own_apart (hv.keep0 k) a.head (by decide) e
            · exact own_apart (hv.keep0 k) a.row (by decide) e
            · exact own_apart (hv.keep0 k) bv.row (by decide) e
          generalize settleE ws l gs = er at *
          generalize settleX ws l gs = W1 at *
          go_region_held3 (fun y => y.cell? ⟨b5, 5, none⟩ = some (.slice sA gs.length scap)) (go_keep)
            (first
              | (go_at_call 64; (first | (refine (CP.out _ _ _ _ h8.out ?_).mono ?_; (first | exact Kept.refl _ _ | exact (Kept.refl _ _).drew | exact (Kept.refl _ _).drewN _); rintro e z2 ⟨rfl, bp2, cp2, hP2, w5⟩) | (refine (CP.out _ _ _ _ h7.out ?_).mono ?_; (first | exact Kept.refl _ _ | exact (Kept.refl _ _).drew | exact (Kept.refl _ _).drewN _); rintro e z2 ⟨rfl, bp2, cp2, hP2, w5⟩)))
              | (go_at_call 65; (first | (refine (CD.out _ _ _ _ _ hP2.out ?_).mono ?_; (first | exact Kept.refl _ _ | exact (Kept.refl _ _).drew | exact (Kept.refl _ _).drewN _); rintro e z3 ⟨rfl, hF3, hOw, w5⟩) | (refine (CD.out _ _ _ _ _ ⟨h7.out.1, h7.out.2.1⟩ ?_).mono ?_; (first | exact Kept.refl _ _ | exact (Kept.refl _ _).drew | exact (Kept.refl _ _).drewN _); rintro e z1 ⟨rfl, hD1, hOw, w5⟩; have h8 := Lib.hid (And.intro hD1.out.1 (And.intro hD1.out.2 (hOw.out v7 h7.out.2.2)))) | (refine (CD.out _ _ _ _ _ ⟨H0.out, rfl⟩ ?_).mono ?_; (first | exact Kept.refl _ _ | exact (Kept.refl _ _).drew | exact (Kept.refl _ _).drewN _); rintro e z1 ⟨rfl, hD1, hOw, w5⟩)))
              | (refine Ir.step_append_ints (by rfl) (.const (.slice none 0 0)) (.tmp 107) (by rfl) (.slice none 0 0) [] (by rfl) (Ir.Own.nil _) sA gs.length scap gs (by rfl) rfl hgn (HSeen.out _ _ _ _ _ _ hD1.out (by first | exact (Kept.refl _ _).drew | exact Kept.refl _ _ | exact (Kept.refl _ _).drewN _)) (by simp only [List.length_nil]; omega) ?_; intro v7 x7 o7 g7 b7; have h7 := Lib.hid (HApp.out _ _ _ _ _ _ _ _ hD1.out (by first | exact (Kept.refl _ _).drew | exact Kept.refl _ _ | exact (Kept.refl _ _).drewN _) o7 g7); have w5 := (HCl.out x7 h7.out.2.1).2.2.2.2; clear o7 g7 b7)
              | (refine Ir.step_append_ints (by rfl) (.const (.slice none 0 0)) (.tmp 107) (by rfl) (.slice none 0 0) [] (by rfl) (Ir.Own.nil _) sA gs.length scap gs (by rfl) rfl hgn (HSeen.out _ _ _ _ _ _ ⟨H0.out, rfl⟩ (by first | exact (Kept.refl _ _).drew | exact Kept.refl _ _ | exact (Kept.refl _ _).drewN _)) (by simp only [List.length_nil]; omega) ?_; intro v7 x7 o7 g7 b7; have h7 := Lib.hid (HApp.out _ _ _ _ _ _ _ _ ⟨H0.out, rfl⟩ (by first | exact (Kept.refl _ _).drew | exact Kept.refl _ _ | exact (Kept.refl _ _).drewN _) o7 g7); have w5 := (HCl.out x7 h7.out.2.1).2.2.2.2; clear o7 g7 b7)
              | fail)
          all_goals
            clear w5
            go_wp2_with fail
            go_ret
            first
            | exact ⟨rfl, _, _, _, hF3.out.1⟩
            | exact ⟨rfl, _, _, _, hP2.out.1⟩
        · have hb0 : (sd == 0) = false := by simpa using e0
          have hb1 : (sd == 1) = false := by simpa using e1
          have hb2 : (sd == 2) = false := by simpa using e2
          have hb3 : (sd == 3) = false := by simpa using e3
          by_cases e5 : sd = 5
          · have hb5 : (sd == 5) = true := by simpa using e5
            have HJ1 := Lib.hid (HJ.out x1 ⟨ws, bs, cs, H0.out⟩)
            clear HJ e0 e1 e2 e3 e5 
            go_wp2_with fail
            refine HJ1.out.mono ?_
            rintro e z ⟨rfl, hz⟩
            have HZ := Lib.hid hz
            clear hz HJ1
            go_wp2_with fail
            go_ret
            exact ⟨rfl, HZ.out⟩
          · have hb5 : (sd == 5) = false := by simpa using e5
            clear HJ e0 e1 e2 e3 e5
            go_wp2_with fail
            go_ret
            exact ⟨rfl, ws, bs, cs, H0.out⟩
end
end Go.Proofs.YtdfnphgjjodfoaaGreatDoor.Sp
