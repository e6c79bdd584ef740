/-
  The contracts of a row's methods: count, item, push.
-/
import Derived.Test.YtflcnpmampaamaaDoorTyRow
import Derived.Test.YtflcnpmampaamaaDoorKdSize
import Derived.Deep.RegionHeldLaw
import Derived.Deep.RegionLaw
import Derived.WalkSpells
namespace Go.Proofs.YtflcnpmampaamaaDoor.Tb
open Go.RowKit Go.Proofs.YtflcnpmampaamaaDoor.Ar Go.Maps
set_option linter.unusedVariables false

/-- The numbers of a type are those of one that may be. -/
def Ty.fit (x : Ty) : Prop := Kd.may x.k x.wd x.ms
instance (x : Ty) : Decidable x.fit := by unfold Ty.fit; infer_instance
def Fresh (w : World) (v : Value) : Prop := v.ownBlock = none ∨ ∃ b, v.ownBlock = some b ∧ w.heap.size ≤ b
/-- A table: its block, the slice of its types. -/
structure Tab (w : World) (p : Nat) (A : Option Addr) (c : Nat) (l : List Ty) : Prop where
  head : Has w p 56 [.slice A l.length c]
  own : Own w (.slice A l.length c) l
  nil : A = none ↔ l = []
  len : l.length ≤ 64
  all : ∀ x ∈ l, x.ok ∧ x.fit
theorem Tab.kept {w w' : World} {p : Nat} {A : Option Addr} {c : Nat} {l : List Ty} {S : List Nat} (h : Tab w p A c l) (k : Kept S w w') (hp : p ∉ S) (hS : ∀ g ∈ S, (Value.slice A l.length c).ownBlock ≠ some g) : Tab w' p A c l :=
  ⟨h.head.kept k hp, h.own.kept k hS, h.nil, h.len, h.all⟩
theorem Tab.keep0 {w w' : World} {p : Nat} {A : Option Addr} {c : Nat} {l : List Ty} (h : Tab w p A c l) (k : Kept [] w w') : Tab w' p A c l := h.kept k (by simp) (by simp)
theorem Tab.form {w : World} {p : Nat} {A : Option Addr} {c : Nat} {l : List Ty} (h : Tab w p A c l) : (A = none ∧ c = 0 ∧ l = []) ∨ ∃ g, A = some ⟨g, 0, none⟩ ∧ g < w.heap.size ∧ l ≠ [] := by
  rcases h.own.form with ⟨e, e2⟩ | ⟨g, cap, e, hg, _⟩
  · injection e with e1 _ e3
    exact .inl ⟨e1, e3, e2⟩
  · injection e with e1 _ e3
    refine .inr ⟨g, e1, hg, fun e4 => ?_⟩
    have := h.nil.2 e4
    rw [e1] at this
    cases this
theorem cell1 {w : World} {b : Nat} {t : TypeId} {v0 : Value} (h : Has w b t [v0]) : w.cell? ⟨b, 0, none⟩ = some v0 := by rw [h.cell]; rfl
set_option maxRecDepth 100000 in
theorem count_ok {w : World} {p : Nat} {A : Option Addr} {c : Nat} {l : List Ty} (h : Tab w p A c l) :
    Calls Tryd.prog 30 #[.pointer (some ⟨p, 0, none⟩)] w fun e w' => e = .returned (.int .i64 l.length) ∧ Kept [] w w' := by
  have c0 := cell1 h.head
  clear h
  go_enter Tryd.func30, Tryd.ntmps30
  go_wp2_with fail
  go_ret
  exact ⟨rfl, Kept.refl [] w⟩
theorem eql_nil (x : World) (a : Option Addr) (n c : Nat) : (binOp .eql 33 (.slice a n c) (.slice none 0 0)).run Tryd.prog x = .ok (.bool a.isNone) x := Lib.run_eql_slice_nil x 33 58 a n c 0 0 Tryd.underlying33
theorem cells3 {w : World} {b : Nat} {t : TypeId} {v0 v1 v2 : Value} (h : Has w b t [v0, v1, v2]) : w.cell? ⟨b, 0, none⟩ = some v0 ∧ w.cell? ⟨b, 1, none⟩ = some v1 ∧ w.cell? ⟨b, 2, none⟩ = some v2 :=
  ⟨h.cell 0, h.cell 1, h.cell 2⟩
theorem free3 {w : World} {b : Nat} {t : TypeId} {cs : List Value} (h : Has w b t cs) : w.frozen? ⟨b, 0, none⟩ = false ∧ w.frozen? ⟨b, 1, none⟩ = false ∧ w.frozen? ⟨b, 2, none⟩ = false :=
  ⟨h.free 0, h.free 1, h.free 2⟩
def put3 (b : Nat) (v0 v1 v2 : Value) (w : World) : World := ((w.setCell ⟨b, 0, none⟩ v0).setCell ⟨b, 1, none⟩ v1).setCell ⟨b, 2, none⟩ v2
theorem put3_has {b : Nat} {t : TypeId} {w : World} {a0 a1 a2 : Value} (h : Has w b t [a0, a1, a2]) (v0 v1 v2 : Value) : Has (put3 b v0 v1 v2 w) b t [v0, v1, v2] := ((h.put 0 v0).put 1 v1).put 2 v2
theorem put3_kept {b : Nat} {S : List Nat} {w0 w : World} (h : Kept S w0 w) (hb : b ∈ S ∨ w0.heap.size ≤ b) (v0 v1 v2 : Value) : Kept S w0 (put3 b v0 v1 v2 w) :=
  ((h.setCell ⟨b, 0, none⟩ v0 hb).setCell ⟨b, 1, none⟩ v1 hb).setCell ⟨b, 2, none⟩ v2 hb
theorem size_type : (Tryd.prog.info? 58).map (·.size) = some 3 := by kernel_rfl
/-- The end of a function whose first result is a type that lies in memory: three stores, then it is read. -/
theorem ret_ty {f : Func} {p u : Tmp} (h : f.results = #[.cell p 58, .tmp u]) {a : Act} {w0 w : World} {g : Nat} {a0 a1 a2 v0 v1 v2 : Value} (hp : a.tmps.getD p undef = .pointer (some ⟨g, 0, none⟩)) (hH : Has w g 58 [a0, a1, a2]) (hk : Kept [] w0 w) (hg : w0.heap.size ≤ g)
    (hdf : a.defers = []) {E : Value} (hE : a.tmps.getD u undef = E) {R : Ending → World → Prop}
    (hR : ∀ X, Kept [] w0 X → R (.returned (.tuple #[.agg #[v0, v1, v2], E])) X) : bodyPost Tryd.prog f R .ret a (put3 g v0 v1 v2 w) := by
  refine Kd.ret_row h _ hp (put3_has hH v0 v1 v2) rfl Tryd.underlying58 rfl size_type hdf ?_
  rw [hE]
  exact hR _ (put3_kept hk (.inr hg) _ _ _)
theorem ret_ty0 {f : Func} {p u : Tmp} (h : f.results = #[.cell p 58, .tmp u]) {a : Act} {X : World} {g : Nat} {v0 v1 v2 : Value} (hp : a.tmps.getD p undef = .pointer (some ⟨g, 0, none⟩)) (hH : Has X g 58 [v0, v1, v2])
    (hdf : a.defers = []) {E : Value} (hE : a.tmps.getD u undef = E) {R : Ending → World → Prop} (hR : R (.returned (.tuple #[.agg #[v0, v1, v2], E])) X) : bodyPost Tryd.prog f R .ret a X := by
  refine Kd.ret_row h _ hp hH rfl Tryd.underlying58 rfl size_type hdf ?_
  rw [hE]
  exact hR
def hasT (l : List Ty) (i : Int) : Bool := decide (1 ≤ i ∧ i ≤ (l.length : Int))
def getT (l : List Ty) (i : Int) : Ty := if 1 ≤ i ∧ i ≤ (l.length : Int) then l.getD (i - 1).toNat Ty.zero else Ty.zero
theorem hasT_no {l : List Ty} {i : Int} (h : ¬ (1 ≤ i ∧ i ≤ (l.length : Int))) : hasT l i = false ∧ getT l i = Ty.zero := ⟨decide_eq_false h, if_neg h⟩
theorem hasT_yes {l : List Ty} {i : Int} {t : Nat} (h : i - 1 = (t : Int)) (ht : t < l.length) : hasT l i = true ∧ getT l i = l.getD t Ty.zero := by
  have hc : 1 ≤ i ∧ i ≤ (l.length : Int) := by omega
  refine ⟨decide_eq_true hc, ?_⟩
  rw [getT, if_pos hc, h]
  rfl
set_option maxRecDepth 100000 in
set_option maxHeartbeats 1000000 in
theorem item_ok {w : World} {p : Nat} {A : Option Addr} {c : Nat} {l : List Ty} (h : Tab w p A c l) (i : Int) (hi0 : -9223372036854775808 ≤ i) (hi1 : i ≤ 9223372036854775807) :
    Calls Tryd.prog 43 #[.pointer (some ⟨p, 0, none⟩), .int .i64 i] w fun e w' => e = .returned (.tuple #[(getT l i).val, .bool (hasT l i)]) ∧ Kept [] w w' := by
  have HC := Lib.hid (fun x (k : Kept [] w x) => count_ok (h.keep0 k))
  have hk0 : ∀ o, Kept [] w (w.alloc o) := fun o => (Kept.refl [] w).alloc o
  have hlen := h.len
  have hb0 : Has (w.alloc (.cells #[.int .u8 0, .int .i64 0, .int .u64 0] 58)) w.heap.size 58 [.int .u8 0, .int .i64 0, .int .u64 0] := Has.new w _ _
  have hB : w.heap.size ≤ w.heap.size := Nat.le_refl _
  unfold Ty.val
  by_cases h1 : i < 1
  · obtain ⟨e1, e2⟩ := hasT_no (l := l) (i := i) (by omega)
    rw [e1, e2]
    unfold Ty.zero
    clear HC e1 e2 h
    go_enter Tryd.func43, Tryd.ntmps43
    go_wp2_with fail
    refine ret_ty0 rfl rfl (hb0.alloc _) rfl rfl ⟨rfl, (hk0 _).alloc _⟩
  · by_cases h2 : i > (l.length : Int)
    · obtain ⟨e1, e2⟩ := hasT_no (l := l) (i := i) (by omega)
      rw [e1, e2]
      unfold Ty.zero
      clear e1 e2 h
      have Hb := Lib.hid hb0
      have Hk := Lib.hid (hk0 (.cells #[.int .u8 0, .int .i64 0, .int .u64 0] 58))
      clear hb0 hk0 hB
      go_enter Tryd.func43, Tryd.ntmps43
      go_wp2_with fail
      refine (HC.out _ Hk.out).mono ?_
      rintro e w1 ⟨rfl, hk1⟩
      have hz := Hb.out.keep0 hk1
      have hk := Hk.out.trans hk1
      clear hk1 HC Hb Hk
      obtain ⟨d0, d1, d2⟩ : (∀ o, (w1.alloc o).cell? ⟨w.heap.size, 0, none⟩ = some (.int .u8 0)) ∧ (∀ o, (w1.alloc o).cell? ⟨w.heap.size, 1, none⟩ = some (.int .i64 0)) ∧ (∀ o, (w1.alloc o).cell? ⟨w.heap.size, 2, none⟩ = some (.int .u64 0)) := ⟨fun o => (cells3 (hz.alloc o)).1, fun o => (cells3 (hz.alloc o)).2.1, fun o => (cells3 (hz.alloc o)).2.2⟩
      obtain ⟨f0, f1, f2⟩ : (∀ o, (w1.alloc o).frozen? ⟨w.heap.size, 0, none⟩ = false) ∧ (∀ o, (w1.alloc o).frozen? ⟨w.heap.size, 1, none⟩ = false) ∧ (∀ o, (w1.alloc o).frozen? ⟨w.heap.size, 2, none⟩ = false) := ⟨fun o => (free3 (hz.alloc o)).1, fun o => (free3 (hz.alloc o)).2.1, fun o => (free3 (hz.alloc o)).2.2⟩
      have Hz := Lib.hid hz
      have HK := Lib.hid hk
      have HB := Lib.hid (Nat.le_refl w.heap.size)
      clear hz hk
      generalize hB0 : w.heap.size = B at *
      have HB2 : Hid (w.heap.size = B) := Lib.hid hB0
      clear hB0
      go_wp2_with fail
      (try simp only [Exit.inBlock, Exit.then])
      refine ret_ty (w0 := w) (w := w1.alloc _) rfl rfl (Hz.out.alloc _) (HK.out.alloc _) (HB2.out ▸ HB.out) rfl rfl ?_
      exact fun X hX => ⟨rfl, hX⟩
    · obtain ⟨t, ht⟩ : ∃ t : Nat, i - 1 = (t : Int) := ⟨(i - 1).toNat, by omega⟩
      have htl : t < l.length := by omega
      obtain ⟨e1, e2⟩ := hasT_yes ht htl
      rw [e1, e2]
      clear e1 e2
      obtain ⟨g, f, rfl, hg, hcells⟩ := (Own.seen h.own).at t htl _ rfl
      generalize l.getD t Ty.zero = x at *
      have hp := fun y (k : Kept [] w y) => cell1 (h.head.keep0 k)
      clear h
      have Hb := Lib.hid hb0
      have Hk := Lib.hid (hk0 (.cells #[.int .u8 0, .int .i64 0, .int .u64 0] 58))
      have Hc := Lib.hid hcells
      have Hp := Lib.hid hp
      clear hb0 hk0 hB hcells hp
      go_enter Tryd.func43, Tryd.ntmps43
      go_wp2_with fail
      refine (HC.out _ Hk.out).mono ?_
      rintro e w1 ⟨rfl, hk1⟩
      have hz := Hb.out.keep0 hk1
      have hk := Hk.out.trans hk1
      obtain ⟨c0, c1, c2⟩ := Hc.out w1 hk
      have cp := Hp.out w1 hk
      clear hk1 HC Hb Hk Hc Hp
      obtain ⟨f0, f1, f2⟩ := free3 hz
      obtain ⟨d0, d1, d2⟩ := cells3 hz
      have Hz := Lib.hid hz
      have HK := Lib.hid hk
      have HB := Lib.hid (Nat.le_refl w.heap.size)
      clear hz hk
      generalize hB0 : w.heap.size = B at *
      have HB2 : Hid (w.heap.size = B) := Lib.hid hB0
      clear hB0
      go_wp2_with fail
      (try simp only [Exit.inBlock, Exit.then])
      refine ret_ty (w0 := w) (w := w1) rfl rfl Hz.out HK.out (HB2.out ▸ HB.out) rfl rfl ?_
      exact fun X hX => ⟨rfl, hX⟩
def blk (A : Option Addr) : List Nat := match A with | some a => [a.block] | none => []
theorem own_blk (A : Option Addr) (n c : Nat) : ∀ g ∈ blk A, (Value.slice A n c).ownBlock = some g := by
  cases A with
  | none => intro g hg; cases hg
  | some a => intro g hg; simp only [blk, List.mem_singleton] at hg; subst hg; rfl
theorem blk_own {A : Option Addr} {n c g : Nat} (h : (Value.slice A n c).ownBlock = some g) : g ∈ blk A := by
  cases A with
  | none => cases h
  | some a => simp only [Value.ownBlock, Option.some.injEq] at h; subst h; exact List.mem_singleton.2 rfl
theorem pushed {w y w1 : World} {p : Nat} {A : Option Addr} {c : Nat} {l : List Ty} {x : Ty} {g cap : Nat} (h : Tab w p A c l) (hx : x.ok ∧ x.fit) (hl : l.length < 64) (k : Kept [] w y) (hgr : y.grownBy w1 (Value.slice A l.length c).ownBlock)
    (hO : Own w1 (.slice (some ⟨g, 0, none⟩) (l.length + 1) cap) (l ++ [x])) (hat : (Value.slice A l.length c).ownBlock = some g ∨ g = y.heap.size) :
    Tab (w1.setCell ⟨p, 0, none⟩ (.slice (some ⟨g, 0, none⟩) (l.length + 1) cap)) p (some ⟨g, 0, none⟩) cap (l ++ [x]) ∧ Kept (p :: blk A) w (w1.setCell ⟨p, 0, none⟩ (.slice (some ⟨g, 0, none⟩) (l.length + 1) cap)) ∧ ∀ g' ∈ blk (some ⟨g, 0, none⟩), g' ∈ blk A ∨ w.heap.size ≤ g' := by
  have kk : Kept (blk A) w w1 := (k.none (blk A)).grown hgr fun g e => .inl (blk_own e)
  have hp := h.head.kept kk fun hp => (h.own.block_type h.head (by decide)) (own_blk A _ c _ hp)
  have hlen : (l ++ [x]).length = l.length + 1 := by rw [List.length_append]; rfl
  have kp : Kept [p] w1 (w1.setCell ⟨p, 0, none⟩ (.slice (some ⟨g, 0, none⟩) (l.length + 1) cap)) := (Kept.refl [p] w1).setCell _ _ (.inl (by simp))
  refine ⟨⟨?_, ?_, ⟨(fun e => by cases e), (fun e => by simp at e)⟩, (by omega), ?_⟩, ?_, ?_⟩
  · rw [hlen]
    exact hp.put 0 _
  · rw [hlen]
    exact hO.kept kp fun g' hg' e => by
      obtain rfl := List.mem_singleton.1 hg'
      exact (hO.block_type hp (by decide)) e
  · intro z hz
    rcases List.mem_append.1 hz with hz | hz
    · exact h.all z hz
    · obtain rfl := List.mem_singleton.1 hz
      exact hx
  · exact (kk.mono fun i hi => List.mem_cons_of_mem _ hi).trans (kp.mono fun i hi => by rw [List.mem_singleton.1 hi]; simp)
  · intro g' hg'
    obtain rfl : g' = g := List.mem_singleton.1 hg'
    rcases hat with e | e
    · exact .inl (blk_own e)
    · exact .inr (by rw [e]; exact k.more)
set_option maxRecDepth 100000 in
set_option maxHeartbeats 1000000 in
theorem push_ok {w : World} {p : Nat} {A : Option Addr} {c : Nat} {l : List Ty} (h : Tab w p A c l) (x : Ty) (hx : x.ok ∧ x.fit) (hl : l.length < 64) :
    Calls Tryd.prog 38 #[.pointer (some ⟨p, 0, none⟩), x.val] w fun e w' => ∃ A' c', e = .returned (.int .i64 ((l.length : Int) + 1)) ∧ Tab w' p A' c' (l ++ [x]) ∧ Kept (p :: blk A) w w' ∧ ∀ g ∈ blk A', g ∈ blk A ∨ w.heap.size ≤ g := by
  have hk0 : Kept [] w (w.alloc (.cells #[.int .u8 (x.k : Int), .int .i64 x.wd, .int .u64 (x.ms : Int)] 58)) := (Kept.refl [] w).alloc _
  have hb0 : Has (w.alloc (.cells #[.int .u8 (x.k : Int), .int .i64 x.wd, .int .u64 (x.ms : Int)] 58)) w.heap.size 58 [.int .u8 (x.k : Int), .int .i64 x.wd, .int .u64 (x.ms : Int)] := Has.new w _ _
  unfold Ty.val
  go_enter Tryd.func38, Tryd.ntmps38
  go_wp2_with fail
  generalize w.alloc (.cells #[.int .u8 (x.k : Int), .int .i64 x.wd, .int .u64 (x.ms : Int)] 58) = W at *
  generalize hB : w.heap.size = B at *
  have cp := cell1 (h.head.keep0 hk0)
  have cpo := fun o => cell1 ((h.head.keep0 hk0).alloc o)
  obtain ⟨d0, d1, d2⟩ := cells3 hb0
  have HT := Lib.hid h
  have HK := Lib.hid hk0
  have HB := Lib.hid hb0
  have HO : Hid (∀ y, Kept [] W y → Own y (.slice A l.length c) l) := Lib.hid fun y k => (h.keep0 (hk0.trans k)).own
  have hlen : l.length + 1 ≤ 1073741824 := by omega
  have HF : Hid (∀ y z, Kept [] W y → y.grownBy z (Value.slice A l.length c).ownBlock → z.cell? ⟨p, 0, none⟩ = some (.slice A l.length c) ∧ z.cell? ⟨B, 0, none⟩ = some (.int .u8 (x.k : Int)) ∧ z.cell? ⟨B, 1, none⟩ = some (.int .i64 x.wd) ∧ z.cell? ⟨B, 2, none⟩ = some (.int .u64 (x.ms : Int)) ∧ z.frozen? ⟨p, 0, none⟩ = false) := Lib.hid fun y z k hg => by
    have kk : Kept (blk A) W z := (k.none (blk A)).grown hg fun g e => .inl (blk_own e)
    have hp := (h.head.keep0 hk0).kept kk fun hp => (h.own.block_type h.head (by decide)) (own_blk A _ c _ hp)
    have hb := hb0.kept kk fun hp => by
      have := h.own.lt _ (own_blk A l.length c _ hp)
      rw [hB] at this
      exact Nat.lt_irrefl _ this
    exact ⟨cell1 hp, (cells3 hb).1, (cells3 hb).2.1, (cells3 hb).2.2, hp.free 0⟩
  have HX := Lib.hid hx
  have HL := Lib.hid hl
  clear h hk0 hb0 hl hx hB
  go_region_law ((refine step_append_type (by rfl) (.tmp 9) (.tmp 11) (by rfl) (.slice A l.length c) l (by rfl) (HO.out _ (by first | exact (((Kept.refl [] W).alloc _).drew) | exact ((((Kept.refl [] W).drew).alloc _)))) _ 1 x (by rfl) (by first | exact (Has.new W _ _).drew | exact (Has.new W.drew _ _)) hlen _ rfl ?_; intro g cap w1 hO1 hgr hat hlt; obtain ⟨z0, z1, z2, z3, z4⟩ := HF.out _ _ (by first | exact (((Kept.refl [] W).alloc _).drew) | exact ((((Kept.refl [] W).drew).alloc _))) hgr; have HP := Lib.hid (pushed HT.out HX.out HL.out (HK.out.trans (by first | exact (((Kept.refl [] W).alloc _).drew) | exact ((((Kept.refl [] W).drew).alloc _)))) hgr hO1 hat); clear hgr hO1 hat hlt))
  all_goals
    go_wp2_with fail
    refine (count_ok HP.out.1).mono ?_
    rintro e w2 ⟨rfl, hk2⟩
    have HK2 := Lib.hid hk2
    clear hk2 z0 z1 z2 z3 z4
    go_wp2_with fail
    go_ret
    exact ⟨_, _, rfl, HP.out.1.keep0 HK2.out, HP.out.2.1.trans (HK2.out.none _), HP.out.2.2⟩
end Go.Proofs.YtflcnpmampaamaaDoor.Tb
