/-
  Several texts in one: FdObjects, FdCellOf.
-/
import Derived.Test.YtdfnphgjjodfoaaGreatDoorG42
import Derived.Shelf.Abstract
import Derived.RegionTactic
/-
  Stage 11, find: the contract of objects: as cells, but with objects alone.
-/
namespace Go.Proofs.YtdfnphgjjodfoaaGreatDoor.Fd
open Go.RowKit Go.Proofs.YtdfnphgjjodfoaaGreatDoor.Ar Go.Proofs.YtdfnphgjjodfoaaGreatDoor.Sp Go.Shelf
open Go.Proofs.YtdfnphgjjodfoaaGreatDoor.Hd (Hd fitL wordI Fields)
open Go.Proofs.YtdfnphgjjodfoaaGreatDoor.Tb (Ty)
open Go.Proofs.YtdfnphgjjodfoaaGreatDoor.Sh (wordR wordB)
set_option linter.unusedVariables false

def obF (L : List (Cel × Int)) : List (Cel × Int) := L.filter fun x => decide (x.1.h.tg = 1)
theorem obF_snoc (L : List (Cel × Int)) (c : Cel) (k : Int) : obF (L ++ [(c, k)]) = if c.h.tg = 1 then obF L ++ [(c, k)] else obF L := by
  unfold obF
  rw [List.filter_append]
  by_cases h : c.h.tg = 1 <;> simp [h]
theorem obF_len (L : List (Cel × Int)) : (obF L).length ≤ L.length := List.length_filter_le _ _
set_option maxRecDepth 100000 in
set_option maxHeartbeats 4000000 in
theorem ob1_ok {X : World} {b fi : Nat} {lb : Array Value} (eg : ∀ args w, (callFunc fi args).run Tryz.prog w = .ok (.enter fi args) w) (c : Cel) (k : Int) (hB : Has X b 76 [.func (.func fi) #[] lb]) (R : World → Prop)
    (hY : c.h.tg = 1 → ∀ y, Kept [] X y → Calls Tryz.prog fi (#[c.val, .int .i64 k] ++ lb) y fun e z => e = .returned (.tuple #[]) ∧ R z) (hN : c.h.tg ≠ 1 → ∀ y, Kept [] X y → R y) :
    Calls Tryz.prog 72 #[c.val, .int .i64 k, .pointer (some ⟨b, 0, none⟩)] X fun e z => e = .returned (.tuple #[]) ∧ R z := by
  have hc := Has.new X 37 [.int .i64 c.a, .int .u8 c.h.tg, .int .i64 c.h.ty, .int .i64 c.h.ln, .int .i64 c.h.sz]
  have ka := (Kept.refl [] X).alloc (.cells #[.int .i64 c.a, .int .u8 c.h.tg, .int .i64 c.h.ty, .int .i64 c.h.ln, .int .i64 c.h.sz] 37)
  have hb := (hB.keep0 ka).cell 0
  simp at hb
  obtain ⟨d0, d1, d2, d3, d4⟩ := cells5 hc
  have HY := Lib.hid (fun ht : c.h.tg = 1 => hY ht _ ka)
  have HN := Lib.hid (fun ht : c.h.tg ≠ 1 => hN ht _ ka)
  clear hc ka hY hN hB
  obtain ⟨ca, ⟨ct, cy, cl, cz⟩⟩ := c
  unfold Cel.val at HY ⊢
  simp only at *
  by_cases ht : ct = 1
  · subst ht
    have HYc := Lib.hid (HY.out rfl)
    clear HN HY
    go_enter Tryz.func72, Tryz.ntmps72
    go_wp2_with fail
    refine HYc.out.mono ?_
    rintro e z ⟨rfl, hz⟩
    have HZ := Lib.hid hz
    clear hz HYc d0 d1 d2 d3 d4 hb
    go_wp2_with fail
    go_end0
    exact ⟨rfl, HZ.out⟩
  · have HNc := Lib.hid (HN.out ht)
    have hne : (ct == 1) = false := by simpa using ht
    clear HY HN ht
    go_enter Tryz.func72, Tryz.ntmps72
    go_wp2_with fail
    go_end0
    exact ⟨rfl, HNc.out⟩
set_option maxRecDepth 100000 in
set_option maxHeartbeats 4000000 in
theorem objects_ok {w : World} {p : Option Addr} {cs : List Cel} {ws : List Int} {l : List Ty} {ec : Int} (hT : Tiled ws l 0 cs ec) (he : ec ≤ 32768)
    (hC : ∀ x, Kept [] w x → Calls Tryz.prog 19 #[.pointer p] x fun e z => ∃ v, e = .returned v ∧ Sp.Own z v cs ∧ Sp.FreshV x v ∧ Kept [] x z)
    (fi : Nat) (lb : Array Value) (eg : ∀ args w, (callFunc fi args).run Tryz.prog w = .ok (.enter fi args) w) (S : List Nat) {A : Option Addr} {cap : Nat} (us : List Int) (hA : Rw w A us) (hu : ∀ u ∈ us, 0 ≤ u ∧ u < 18446744073709551616) (hlen : us.length ≤ 1000000)
    (hS : ∀ b ∈ S, ∃ t cs, Has w b t cs ∧ t ≠ 24)
    (J : List (Cel × Int) → World → Prop) (hJ : ∀ pre X Y, J pre X → Kept [] X Y → J pre Y) (h0 : J [] w)
    (hY : ∀ pre c k X, c ∈ cs → c.h.tg = 1 → 0 ≤ k → k < 2 * c.h.sz → pre.length < us.length → J pre X → Calls Tryz.prog fi (#[c.val, .int .i64 k] ++ lb) X fun e y => e = .returned (.tuple #[]) ∧ J (pre ++ [(c, k)]) y ∧ Kpi S X y) :
    Calls Tryz.prog 33 #[.pointer p, .func (.func fi) #[] lb, .slice A us.length cap] w fun e y => e = .returned (.tuple #[]) ∧ J (obF (fou cs us)) y ∧ Kpi S w y := by
  have ka := (Kept.refl [] w).alloc (.cells #[.func (.func fi) #[] lb] 76)
  have hb := Has.new w 76 [.func (.func fi) #[] lb]
  have hnb : w.heap.size ∉ S := fun hm => by
    obtain ⟨t, cs', h1, _⟩ := hS _ hm
    have := h1.lt
    omega
  have HC := Lib.hid (fcells_ok (cap := cap) hT he (hC _ ka |>.mono fun e z ⟨v, h1, h2, h3, h4⟩ => ⟨v, h1, h2, h3, h4⟩) 72 #[.pointer (some ⟨w.heap.size, 0, none⟩)] (enters_of Tryz.func72 (by kernel_rfl) rfl) S us (hA.keep0 ka) hu hlen
    (fun b hm => let ⟨t, cs', h1, h2⟩ := hS b hm; ⟨t, cs', h1.keep0 ka, h2⟩)
    (fun pre X => J (obF pre) X ∧ Has X w.heap.size 76 [.func (.func fi) #[] lb])
    (fun pre X Y h k => ⟨hJ _ _ _ h.1 k, h.2.keep0 k⟩) ⟨hJ _ _ _ h0 ka, hb⟩
    (fun pre c k X hc k0 k1 hp hj => by
      refine (ob1_ok eg c k hj.2 (fun z => (J (obF (pre ++ [(c, k)])) z ∧ Has z w.heap.size 76 [.func (.func fi) #[] lb]) ∧ Kpi S X z) (fun ht y hy => ?_) (fun ht y hy => ?_)).mono fun e z h => h
      · refine (hY (obF pre) c k y hc ht k0 k1 (Nat.lt_of_le_of_lt (obF_len pre) hp) (hJ _ _ _ hj.1 hy)).mono fun e z ⟨h1, h2, h3⟩ => ⟨h1, ⟨?_, ?_⟩, (Kpi.keep0 hy).trans h3⟩
        · rw [obF_snoc, if_pos ht]
          exact h2
        · exact h3.has _ _ _ hnb (by decide) (hj.2.keep0 hy)
      · exact ⟨⟨by rw [obF_snoc, if_neg ht]; exact hJ _ _ _ hj.1 hy, hj.2.keep0 hy⟩, Kpi.keep0 hy⟩))
  have HK : Hid (Kpi S w (w.alloc (.cells #[.func (.func fi) #[] lb] 76))) := Lib.hid (Kpi.keep0 ka)
  clear ka hb hnb hT hC hA hu hS hJ h0 hY
  go_enter Tryz.func33, Tryz.ntmps33
  go_wp2_with fail
  refine HC.out.mono ?_
  rintro e z ⟨rfl, hz, hk⟩
  have HZ := Lib.hid hz.1
  have HK2 := Lib.hid (HK.out.trans hk)
  clear hz hk HC HK
  go_wp2_with fail
  go_end0
  exact ⟨rfl, HZ.out, HK2.out⟩
end Go.Proofs.YtdfnphgjjodfoaaGreatDoor.Fd

/-
  Stage 11, find: the contracts of Cell and Of.
-/
namespace Go.Proofs.YtdfnphgjjodfoaaGreatDoor.Fd
open Go.RowKit Go.Proofs.YtdfnphgjjodfoaaGreatDoor.Ar Go.Proofs.YtdfnphgjjodfoaaGreatDoor.Sp Go.Shelf
open Go.Proofs.YtdfnphgjjodfoaaGreatDoor.Hd (Hd fitL wordI Fields)
open Go.Proofs.YtdfnphgjjodfoaaGreatDoor.Tb (Ty)
open Go.Proofs.YtdfnphgjjodfoaaGreatDoor.Sh (wordR wordB)
set_option linter.unusedVariables false

theorem has_at {w : World} (t : TypeId) (cs : List Value) {n : Nat} (h : w.heap.size = n) : Has (w.alloc (.cells cs.toArray t)) n t cs := h ▸ Has.new w t cs
def lastC (pre : List (Cel × Int)) : Cel := match pre.getLast? with
  | some x => x.1
  | none => Cel.zero
theorem lastC_snoc (pre : List (Cel × Int)) (c : Cel) (k : Int) : lastC (pre ++ [(c, k)]) = c := by unfold lastC; rw [List.getLast?_concat]
theorem ret_cel0 {f : Func} {p u : Tmp} (h : f.results = #[.cell p 37, .tmp u]) {a : Act} {X : World} {g : Nat} {v0 v1 v2 v3 v4 : Value} (hp : a.tmps.getD p undef = .pointer (some ⟨g, 0, none⟩)) (hH : Has X g 37 [v0, v1, v2, v3, v4])
    (hdf : a.defers = []) {E : Value} (hE : a.tmps.getD u undef = E) {R : Ending → World → Prop} (hR : R (.returned (.tuple #[.agg #[v0, v1, v2, v3, v4], E])) X) : bodyPost Tryz.prog f R .ret a X := by
  refine Kd.ret_row h _ hp hH rfl Tryz.underlying37 rfl size_cell hdf ?_
  rw [hE]
  exact hR
theorem load_one {w : World} {g : Nat} {t ty : TypeId} {v : Value} (hH : Has w g t [v]) (ha : ∀ x, (isAgg ty).run Tryz.prog x = .ok false x) : (loadVar ty ⟨g, 0, none⟩).run Tryz.prog w = .ok v w := by
  have h := hH.cell 0
  simp at h
  simp [loadVar, Sem.run_bind, ha, h]
theorem ret_vars2 {f : Func} {p q : Tmp} {ty tz : TypeId} (h : f.results = #[.cell p ty, .cell q tz]) {a : Act} {X : World} {g k : Nat} {t1 t2 : TypeId} {v1 v2 : Value} (hp : a.tmps.getD p undef = .pointer (some ⟨g, 0, none⟩)) (hq : a.tmps.getD q undef = .pointer (some ⟨k, 0, none⟩))
    (h1 : Has X g t1 [v1]) (h2 : Has X k t2 [v2]) (a1 : ∀ x, (isAgg ty).run Tryz.prog x = .ok false x) (a2 : ∀ x, (isAgg tz).run Tryz.prog x = .ok false x) (hdf : a.defers = []) {R : Ending → World → Prop} (hR : R (.returned (.tuple #[v1, v2])) X) : bodyPost Tryz.prog f R .ret a X := by
  refine bodyPost_ret ?_ hdf hR
  have hp' : a.tmps[p]?.getD undef = .pointer (some ⟨g, 0, none⟩) := by simpa using hp
  have hq' : a.tmps[q]?.getD undef = .pointer (some ⟨k, 0, none⟩) := by simpa using hq
  simp [results, h, hp', hq', asAddr, load_one h1 a1, load_one h2 a2]
theorem ret_vars3 {f : Func} {p q r : Tmp} {ty tz tu : TypeId} (h : f.results = #[.cell p ty, .cell q tz, .cell r tu]) {a : Act} {X : World} {g k m : Nat} {t1 t2 t3 : TypeId} {v1 v2 v3 : Value} (hp : a.tmps.getD p undef = .pointer (some ⟨g, 0, none⟩)) (hq : a.tmps.getD q undef = .pointer (some ⟨k, 0, none⟩)) (hr : a.tmps.getD r undef = .pointer (some ⟨m, 0, none⟩))
    (h1 : Has X g t1 [v1]) (h2 : Has X k t2 [v2]) (h3 : Has X m t3 [v3]) (a1 : ∀ x, (isAgg ty).run Tryz.prog x = .ok false x) (a2 : ∀ x, (isAgg tz).run Tryz.prog x = .ok false x) (a3 : ∀ x, (isAgg tu).run Tryz.prog x = .ok false x) (hdf : a.defers = []) {R : Ending → World → Prop} (hR : R (.returned (.tuple #[v1, v2, v3])) X) : bodyPost Tryz.prog f R .ret a X := by
  refine bodyPost_ret ?_ hdf hR
  have hp' : a.tmps[p]?.getD undef = .pointer (some ⟨g, 0, none⟩) := by simpa using hp
  have hq' : a.tmps[q]?.getD undef = .pointer (some ⟨k, 0, none⟩) := by simpa using hq
  have hr' : a.tmps[r]?.getD undef = .pointer (some ⟨m, 0, none⟩) := by simpa using hr
  simp [results, h, hp', hq', hr', asAddr, load_one h1 a1, load_one h2 a2, load_one h3 a3]
section
variable {X : World}
set_option maxRecDepth 100000 in
set_option maxHeartbeats 4000000 in
theorem cl_cell {b6 b7 : Nat} (c : Cel) (k : Int) {x : Cel} {v : Bool} (h6 : Has X b6 37 x.l) (h7 : Has X b7 4 [.bool v]) :
    Calls Tryz.prog 31 #[c.val, .int .i64 k, .pointer (some ⟨b6, 0, none⟩), .pointer (some ⟨b7, 0, none⟩)] X fun e z => e = .returned (.tuple #[]) ∧ Has z b6 37 c.l ∧ Has z b7 4 [.bool true] ∧ Kept [b6, b7] X z := by
  unfold Cel.l at h6 ⊢
  have hne : b6 ≠ b7 := Has.block_type h6 h7 (by decide)
  have hc := Has.new X 37 [.int .i64 c.a, .int .u8 c.h.tg, .int .i64 c.h.ty, .int .i64 c.h.ln, .int .i64 c.h.sz]
  have ka := (Kept.refl [] X).alloc (.cells #[.int .i64 c.a, .int .u8 c.h.tg, .int .i64 c.h.ty, .int .i64 c.h.ln, .int .i64 c.h.sz] 37)
  have g6 := h6.keep0 ka
  have g7 := h7.keep0 ka
  obtain ⟨d0, d1, d2, d3, d4⟩ := cells5 hc
  obtain ⟨s0, s1, s2, s3, s4⟩ := cells5 g6
  obtain ⟨f0, f1, f2, f3, f4⟩ := free5 g6
  have s7 := g7.cell 0
  have f7 := g7.free 0
  simp at s7
  have H6 := Lib.hid g6
  have H7 := Lib.hid g7
  have KA := Lib.hid ka
  clear hc ka g6 g7 h6 h7
  obtain ⟨ca, ⟨ct, cy, cl, cz⟩⟩ := c
  unfold Cel.val
  simp only at *
  generalize hX1 : X.alloc (.cells #[.int .i64 ca, .int .u8 ct, .int .i64 cy, .int .i64 cl, .int .i64 cz] 37) = X1 at *
  go_enter Tryz.func31, Tryz.ntmps31
  go_wp2_with fail
  go_end0
  exact ⟨rfl, (put5_has H6.out _ _ _ _ _).beside _ hne _, (((((H7.out.beside _ (Ne.symm hne) _).beside _ (Ne.symm hne) _).beside _ (Ne.symm hne) _).beside _ (Ne.symm hne) _).beside _ (Ne.symm hne) _).put 0 _,
    (put5_kept ((KA.out.none _)) (.inl (by simp)) _ _ _ _ _).setCell _ _ (.inl (by simp))⟩
set_option maxRecDepth 100000 in
set_option maxHeartbeats 4000000 in
theorem cl_of {b4 b5 : Nat} (c : Cel) (k : Int) {x : Int} {v : Bool} (h4 : Has X b4 3 [.int .i64 x]) (h5 : Has X b5 4 [.bool v]) :
    Calls Tryz.prog 34 #[c.val, .int .i64 k, .pointer (some ⟨b4, 0, none⟩), .pointer (some ⟨b5, 0, none⟩)] X fun e z => e = .returned (.tuple #[]) ∧ Has z b4 3 [.int .i64 c.a] ∧ Has z b5 4 [.bool true] ∧ Kept [b4, b5] X z := by
  have hne : b4 ≠ b5 := Has.block_type h4 h5 (by decide)
  have hc := Has.new X 37 [.int .i64 c.a, .int .u8 c.h.tg, .int .i64 c.h.ty, .int .i64 c.h.ln, .int .i64 c.h.sz]
  have ka := (Kept.refl [] X).alloc (.cells #[.int .i64 c.a, .int .u8 c.h.tg, .int .i64 c.h.ty, .int .i64 c.h.ln, .int .i64 c.h.sz] 37)
  have g4 := h4.keep0 ka
  have g5 := h5.keep0 ka
  obtain ⟨d0, d1, d2, d3, d4⟩ := cells5 hc
  have s4 := g4.cell 0
  have f4 := g4.free 0
  have s5 := g5.cell 0
  have f5 := g5.free 0
  simp at s4 s5
  have H4 := Lib.hid g4
  have H5 := Lib.hid g5
  have KA := Lib.hid ka
  clear hc ka g4 g5 h4 h5
  obtain ⟨ca, ⟨ct, cy, cl, cz⟩⟩ := c
  unfold Cel.val
  simp only at *
  generalize hX1 : X.alloc (.cells #[.int .i64 ca, .int .u8 ct, .int .i64 cy, .int .i64 cl, .int .i64 cz] 37) = X1 at *
  go_enter Tryz.func34, Tryz.ntmps34
  go_wp2_with fail
  go_end0
  exact ⟨rfl, (H4.out.put 0 _).beside _ hne _, (H5.out.beside _ (Ne.symm hne) _).put 0 _, ((KA.out.none _).setCell _ _ (.inl (by simp))).setCell _ _ (.inl (by simp))⟩
end
section
variable {w : World} {p : Option Addr} {cs : List Cel} {ws : List Int} {l : List Ty} {ec : Int}
set_option maxRecDepth 100000 in
set_option maxHeartbeats 4000000 in
theorem fcell_ok (hT : Tiled ws l 0 cs ec) (he : ec ≤ 32768)
    (hC : ∀ x, Kept [] w x → Calls Tryz.prog 19 #[.pointer p] x fun e z => ∃ v, e = .returned v ∧ Sp.Own z v cs ∧ Sp.FreshV x v ∧ Kept [] x z) (u : Int) (u0 : 0 ≤ u) (u1 : u < 18446744073709551616) :
    Calls Tryz.prog 10 #[.pointer p, .int .u64 u] w fun e y => e = .returned (.tuple #[((celA cs u).getD Cel.zero).val, .bool (celA cs u).isSome]) ∧ Kept [] w y := by
  obtain ⟨w4, hw4⟩ : ∃ w4, (((w.alloc (.cells #[.int .i64 0, .int .u8 0, .int .i64 0, .int .i64 0, .int .i64 0] 37)).alloc (.cells #[.int .i64 0, .int .u8 0, .int .i64 0, .int .i64 0, .int .i64 0] 37)).alloc (.cells #[.bool false] 4)).alloc (.cells #[.int .u64 u] 24) = w4 := ⟨_, rfl⟩
  have k4 : Kept [] w w4 := by rw [← hw4]; exact ((((Kept.refl [] w).alloc _).alloc _).alloc _).alloc _
  have r4 : Has w4 w.heap.size 37 Cel.zero.l := by rw [← hw4]; exact (((has_at (w := w) 37 Cel.zero.l rfl).alloc _).alloc _).alloc _
  have r6 : Has w4 (w.heap.size + 1) 37 Cel.zero.l := by rw [← hw4]; exact ((has_at 37 Cel.zero.l (by rw [World.size_alloc])).alloc _).alloc _
  have r7 : Has w4 (w.heap.size + 1 + 1) 4 [.bool false] := by rw [← hw4]; exact (has_at 4 [.bool false] (by rw [World.size_alloc, World.size_alloc])).alloc _
  have r8 : Has w4 (w.heap.size + 1 + 1 + 1) 24 [.int .u64 u] := by rw [← hw4]; exact has_at 24 [.int .u64 u] (by rw [World.size_alloc, World.size_alloc, World.size_alloc])
  have HF : Hid (Calls Tryz.prog 30 #[.pointer p, .func (.func 31) #[] #[.pointer (some ⟨w.heap.size + 1, 0, none⟩), .pointer (some ⟨w.heap.size + 1 + 1, 0, none⟩)], .slice (some ⟨w.heap.size + 1 + 1 + 1, 0, none⟩) 1 1] w4 fun e y => e = .returned (.tuple #[]) ∧ Has y (w.heap.size + 1) 37 ((celA cs u).getD Cel.zero).l ∧ Has y (w.heap.size + 1 + 1) 4 [.bool (celA cs u).isSome] ∧ Has y w.heap.size 37 Cel.zero.l ∧ Kept [] w y) := Lib.hid (by
    refine (fcells_ok (cap := 1) hT he (hC _ k4) 31 #[.pointer (some ⟨w.heap.size + 1, 0, none⟩), .pointer (some ⟨w.heap.size + 1 + 1, 0, none⟩)] (enters_of Tryz.func31 (by kernel_rfl) rfl) [w.heap.size + 1, w.heap.size + 1 + 1] [u] (rw_one r8) (fun x hx => by rw [List.mem_singleton.1 hx]; exact ⟨u0, u1⟩) (by simp)
      (fun b hb => by
        rcases List.mem_cons.1 hb with rfl | hb
        · exact ⟨_, _, r6, by decide⟩
        · rw [List.mem_singleton.1 hb]; exact ⟨_, _, r7, by decide⟩)
      (fun pre X => Has X (w.heap.size + 1) 37 (lastC pre).l ∧ Has X (w.heap.size + 1 + 1) 4 [.bool (!pre.isEmpty)] ∧ Has X w.heap.size 37 Cel.zero.l ∧ Kept [] w X)
      (fun pre X Y ⟨a, b, c, d⟩ k => ⟨a.keep0 k, b.keep0 k, c.keep0 k, d.trans k⟩) ⟨r6, r7, r4, k4⟩
      (fun pre c k X hc k0 k1 hp ⟨a, b, d, g⟩ => ?_)).mono ?_
    · refine (cl_cell c k a b).mono fun e z ⟨h1, h2, h3, h4⟩ => ⟨h1, ⟨by rw [lastC_snoc]; exact h2, by rw [show (pre ++ [(c, k)]).isEmpty = false by cases pre <;> rfl]; exact h3, d.kept h4 (by simp <;> omega), g.forget h4 (fun i hi => by simp at hi; omega)⟩, Kpi.boxes h4⟩
    · rintro e y ⟨h1, ⟨a, b, c, d⟩, _⟩
      rw [fou_one] at a b
      refine ⟨h1, ?_, ?_, c, d⟩
      · unfold fou1 at a
        cases hc : celA cs u with
        | none => rw [hc] at a; exact a
        | some c => rw [hc] at a; exact a
      · unfold fou1 at b
        cases hc : celA cs u with
        | none => rw [hc] at b; exact b
        | some c => rw [hc] at b; exact b)
  clear r4 r6 r7 r8 k4 hT hC
  generalize (celA cs u).isSome = bo at *
  generalize (celA cs u).getD Cel.zero = x at *
  obtain ⟨xa, ⟨xt, xy, xl, xz⟩⟩ := x
  unfold Cel.val
  simp only
  go_enter Tryz.func10, Tryz.ntmps10
  go_wp2_with fail
  clear hw4
  have hn6 : w.heap.size + 1 ≠ w.heap.size := by omega
  have hm6 : w.heap.size ≠ w.heap.size + 1 := by omega
  generalize w.heap.size + 1 + 1 + 1 = q8 at *
  generalize w.heap.size + 1 + 1 = q7 at *
  generalize w.heap.size + 1 = q6 at *
  refine HF.out.mono ?_
  rintro e y ⟨rfl, h6, h7, h4, k⟩
  obtain ⟨c0, c1, c2, c3, c4⟩ := cells5 (show Has y q6 37 [.int .i64 xa, .int .u8 xt, .int .i64 xy, .int .i64 xl, .int .i64 xz] from h6)
  have s7 := h7.cell 0
  simp at s7
  have h4' : Has y w.heap.size 37 [.int .i64 0, .int .u8 0, .int .i64 0, .int .i64 0, .int .i64 0] := h4
  obtain ⟨d0, d1, d2, d3, d4⟩ := cells5 h4'
  obtain ⟨f0, f1, f2, f3, f4⟩ := free5 h4'
  have hn7 := Has.block_type h7 h4' (by decide)
  have hm7 := Ne.symm hn7
  have R4 := Lib.hid h4'
  have K4 := Lib.hid k
  clear h6 h7 h4 h4' k HF
  go_wp2_with fail
  go_region
  all_goals
    go_wp2_with fail
    exact ret_cel0 rfl rfl (Has.drew (put5_has R4.out _ _ _ _ _)) rfl rfl ⟨rfl, (put5_kept K4.out (.inr (Nat.le_refl _)) _ _ _ _ _).drew⟩
set_option maxRecDepth 100000 in
set_option maxHeartbeats 4000000 in
theorem fof_ok (hT : Tiled ws l 0 cs ec) (he : ec ≤ 32768)
    (hC : ∀ x, Kept [] w x → Calls Tryz.prog 19 #[.pointer p] x fun e z => ∃ v, e = .returned v ∧ Sp.Own z v cs ∧ Sp.FreshV x v ∧ Kept [] x z) (u : Int) (u0 : 0 ≤ u) (u1 : u < 18446744073709551616) :
    Calls Tryz.prog 12 #[.pointer p, .int .u64 u] w fun e y => e = .returned (.tuple #[.int .i64 ((ofA cs u).getD 0), .bool (ofA cs u).isSome]) ∧ Kept [] w y := by
  obtain ⟨w4, hw4⟩ : ∃ w4, ((w.alloc (.cells #[.int .i64 0] 3)).alloc (.cells #[.bool false] 4)).alloc (.cells #[.int .u64 u] 24) = w4 := ⟨_, rfl⟩
  have k4 : Kept [] w w4 := by rw [← hw4]; exact (((Kept.refl [] w).alloc _).alloc _).alloc _
  have r4 : Has w4 w.heap.size 3 [.int .i64 0] := by rw [← hw4]; exact ((has_at (w := w) 3 [.int .i64 0] rfl).alloc _).alloc _
  have r5 : Has w4 (w.heap.size + 1) 4 [.bool false] := by rw [← hw4]; exact (has_at 4 [.bool false] (by rw [World.size_alloc])).alloc _
  have r8 : Has w4 (w.heap.size + 1 + 1) 24 [.int .u64 u] := by rw [← hw4]; exact has_at 24 [.int .u64 u] (by rw [World.size_alloc, World.size_alloc])
  have HF : Hid (Calls Tryz.prog 33 #[.pointer p, .func (.func 34) #[] #[.pointer (some ⟨w.heap.size, 0, none⟩), .pointer (some ⟨w.heap.size + 1, 0, none⟩)], .slice (some ⟨w.heap.size + 1 + 1, 0, none⟩) 1 1] w4 fun e y => e = .returned (.tuple #[]) ∧ Has y w.heap.size 3 [.int .i64 ((ofA cs u).getD 0)] ∧ Has y (w.heap.size + 1) 4 [.bool (ofA cs u).isSome] ∧ Kept [] w y) := Lib.hid (by
    refine (objects_ok (cap := 1) hT he (fun x k => hC x (k4.trans k)) 34 #[.pointer (some ⟨w.heap.size, 0, none⟩), .pointer (some ⟨w.heap.size + 1, 0, none⟩)] (enters_of Tryz.func34 (by kernel_rfl) rfl) [w.heap.size, w.heap.size + 1] [u] (rw_one r8) (fun x hx => by rw [List.mem_singleton.1 hx]; exact ⟨u0, u1⟩) (by simp)
      (fun b hb => by
        rcases List.mem_cons.1 hb with rfl | hb
        · exact ⟨_, _, r4, by decide⟩
        · rw [List.mem_singleton.1 hb]; exact ⟨_, _, r5, by decide⟩)
      (fun pre X => Has X w.heap.size 3 [.int .i64 (lastC pre).a] ∧ Has X (w.heap.size + 1) 4 [.bool (!pre.isEmpty)] ∧ Kept [] w X)
      (fun pre X Y ⟨a, b, d⟩ k => ⟨a.keep0 k, b.keep0 k, d.trans k⟩) ⟨r4, r5, k4⟩
      (fun pre c k X hc ht k0 k1 hp ⟨a, b, g⟩ => ?_)).mono ?_
    · refine (cl_of c k a b).mono fun e z ⟨h1, h2, h3, h4⟩ => ⟨h1, ⟨by rw [lastC_snoc]; exact h2, by rw [show (pre ++ [(c, k)]).isEmpty = false by cases pre <;> rfl]; exact h3, g.forget h4 (fun i hi => by simp at hi; omega)⟩, Kpi.boxes h4⟩
    · rintro e y ⟨h1, ⟨a, b, d⟩, _⟩
      rw [fou_one] at a b
      have hq : (lastC (obF (fou1 cs u))).a = (ofA cs u).getD 0 ∧ (!(obF (fou1 cs u)).isEmpty) = (ofA cs u).isSome := by
        unfold fou1 ofA
        cases hc : celA cs u with
        | none => exact ⟨rfl, rfl⟩
        | some c =>
          by_cases ht : c.h.tg = 1
          · simp [obF, ht, lastC]
          · simp [obF, ht, lastC, Cel.zero]
      rw [hq.1] at a
      rw [hq.2] at b
      exact ⟨h1, a, b, d⟩)
  clear r4 r5 r8 k4 hT hC
  generalize (ofA cs u).isSome = bo at *
  generalize (ofA cs u).getD 0 = x at *
  go_enter Tryz.func12, Tryz.ntmps12
  go_wp2_with fail
  clear hw4
  have hn5 : w.heap.size + 1 ≠ w.heap.size := by omega
  have hm5 : w.heap.size ≠ w.heap.size + 1 := by omega
  generalize w.heap.size + 1 + 1 = q8 at *
  generalize hq5 : w.heap.size + 1 = q5 at *
  have H5 : Hid (w.heap.size ≤ q5) := Lib.hid (by omega)
  clear hq5
  refine HF.out.mono ?_
  rintro e y ⟨rfl, h4, h5, k⟩
  have s4 := h4.cell 0
  have s5 := h5.cell 0
  simp at s4 s5
  have f4 := h4.free 0
  have f5 := h5.free 0
  have R4 := Lib.hid h4
  have R5 := Lib.hid h5
  have K4 := Lib.hid k
  clear h4 h5 k HF
  go_wp2_with fail
  go_region
  all_goals
    go_wp2_with fail
    exact ret_vars2 rfl rfl rfl ((R4.out.put 0 _).beside _ hm5 _).drew ((R5.out.beside _ hn5 _).put 0 _).drew Tryz.isAgg3 Tryz.isAgg4 rfl ⟨rfl, ((K4.out.setCell _ _ (.inr (Nat.le_refl _))).setCell _ _ (.inr H5.out)).drew⟩
end
end Go.Proofs.YtdfnphgjjodfoaaGreatDoor.Fd
