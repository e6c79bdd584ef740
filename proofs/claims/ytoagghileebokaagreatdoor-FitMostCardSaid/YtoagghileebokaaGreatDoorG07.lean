/-
  Several texts in one: TbRow, TbOps, TbAdd, TbNew.
-/
import Derived.Test.YtoagghileebokaaGreatDoorG02
import Derived.Test.YtoagghileebokaaGreatDoorG06
import Derived.Deep.RegionHeldLaw
import Derived.Deep.RegionLaw
import Derived.WalkSpells
/-
  The contracts of a row's methods: count, item, push.
-/
namespace Go.Proofs.YtoagghileebokaaGreatDoor.Tb
open Go.RowKit Go.Proofs.YtoagghileebokaaGreatDoor.Ar Go.Maps
set_option linter.unusedVariables false

/-- The numbers of a type are those of one that may be. -/
def Ty.fit (x : Ty) : Prop := Kd.may x.k x.wd x.ms
instance (x : Ty) : Decidable x.fit := by unfold Ty.fit; infer_instance
def Fresh (w : World) (v : Value) : Prop := v.ownBlock = none ∨ ∃ b, v.ownBlock = some b ∧ w.heap.size ≤ b
/-- A table: its block, the slice of its types. -/
structure Tab (w : World) (p : Nat) (A : Option Addr) (c : Nat) (l : List Ty) : Prop where
  head : Has w p 97 [.slice A l.length c]
  own : Own w (.slice A l.length c) l
  nil : A = none ↔ l = []
  len : l.length ≤ 64
  all : ∀ x ∈ l, x.ok ∧ x.fit
theorem Tab.kept {w w' : World} {p : Nat} {A : Option Addr} {c : Nat} {l : List Ty} {S : List Nat} (h : Tab w p A c l) (k : Kept S w w') (hp : p ∉ S) (hS : ∀ g ∈ S, (Value.slice A l.length c).ownBlock ≠ some g) : Tab w' p A c l :=
  ⟨h.head.kept k hp, h.own.kept k hS, h.nil, h.len, h.all⟩
theorem Tab.keep0 {w w' : World} {p : Nat} {A : Option Addr} {c : Nat} {l : List Ty} (h : Tab w p A c l) (k : Kept [] w w') : Tab w' p A c l := h.kept k (by simp) (by simp)
theorem Tab.form {w : World} {p : Nat} {A : Option Addr} {c : Nat} {l : List Ty} (h : Tab w p A c l) : (A = none ∧ c = 0 ∧ l = []) ∨ ∃ g, A = some ⟨g, 0, none⟩ ∧ g < w.heap.size ∧ l ≠ [] := by
  rcases h.own.form with ⟨e, e2⟩ | ⟨g, cap, e, hg, _⟩
  · injection e with e1 _ e3
    exact .inl ⟨e1, e3, e2⟩
  · injection e with e1 _ e3
    refine .inr ⟨g, e1, hg, fun e4 => ?_⟩
    have := h.nil.2 e4
    rw [e1] at this
    cases this
theorem cell1 {w : World} {b : Nat} {t : TypeId} {v0 : Value} (h : Has w b t [v0]) : w.cell? ⟨b, 0, none⟩ = some v0 := by rw [h.cell]; rfl
set_option maxRecDepth 100000 in
theorem count_ok {w : World} {p : Nat} {A : Option Addr} {c : Nat} {l : List Ty} (h : Tab w p A c l) :
    Calls Tryz.prog 64 #[.pointer (some ⟨p, 0, none⟩)] w fun e w' => e = .returned (.int .i64 l.length) ∧ Kept [] w w' := by
  have c0 := cell1 h.head
  clear h
  go_enter Tryz.func64, Tryz.ntmps64
  go_wp2_with fail
  go_ret
  exact ⟨rfl, Kept.refl [] w⟩
theorem cells3 {w : World} {b : Nat} {t : TypeId} {v0 v1 v2 : Value} (h : Has w b t [v0, v1, v2]) : w.cell? ⟨b, 0, none⟩ = some v0 ∧ w.cell? ⟨b, 1, none⟩ = some v1 ∧ w.cell? ⟨b, 2, none⟩ = some v2 :=
  ⟨h.cell 0, h.cell 1, h.cell 2⟩
theorem free3 {w : World} {b : Nat} {t : TypeId} {cs : List Value} (h : Has w b t cs) : w.frozen? ⟨b, 0, none⟩ = false ∧ w.frozen? ⟨b, 1, none⟩ = false ∧ w.frozen? ⟨b, 2, none⟩ = false :=
  ⟨h.free 0, h.free 1, h.free 2⟩
def put3 (b : Nat) (v0 v1 v2 : Value) (w : World) : World := ((w.setCell ⟨b, 0, none⟩ v0).setCell ⟨b, 1, none⟩ v1).setCell ⟨b, 2, none⟩ v2
theorem put3_has {b : Nat} {t : TypeId} {w : World} {a0 a1 a2 : Value} (h : Has w b t [a0, a1, a2]) (v0 v1 v2 : Value) : Has (put3 b v0 v1 v2 w) b t [v0, v1, v2] := ((h.put 0 v0).put 1 v1).put 2 v2
theorem put3_kept {b : Nat} {S : List Nat} {w0 w : World} (h : Kept S w0 w) (hb : b ∈ S ∨ w0.heap.size ≤ b) (v0 v1 v2 : Value) : Kept S w0 (put3 b v0 v1 v2 w) :=
  ((h.setCell ⟨b, 0, none⟩ v0 hb).setCell ⟨b, 1, none⟩ v1 hb).setCell ⟨b, 2, none⟩ v2 hb
theorem size_type : (Tryz.prog.info? 57).map (·.size) = some 3 := by kernel_rfl
/-- The end of a function whose first result is a type that lies in memory: three stores, then it is read. -/
theorem ret_ty {f : Func} {p u : Tmp} (h : f.results = #[.cell p 57, .tmp u]) {a : Act} {w0 w : World} {g : Nat} {a0 a1 a2 v0 v1 v2 : Value} (hp : a.tmps.getD p undef = .pointer (some ⟨g, 0, none⟩)) (hH : Has w g 57 [a0, a1, a2]) (hk : Kept [] w0 w) (hg : w0.heap.size ≤ g)
    (hdf : a.defers = []) {E : Value} (hE : a.tmps.getD u undef = E) {R : Ending → World → Prop}
    (hR : ∀ X, Kept [] w0 X → R (.returned (.tuple #[.agg #[v0, v1, v2], E])) X) : bodyPost Tryz.prog f R .ret a (put3 g v0 v1 v2 w) := by
  refine Kd.ret_row h _ hp (put3_has hH v0 v1 v2) rfl Tryz.underlying57 rfl size_type hdf ?_
  rw [hE]
  exact hR _ (put3_kept hk (.inr hg) _ _ _)
theorem ret_ty0 {f : Func} {p u : Tmp} (h : f.results = #[.cell p 57, .tmp u]) {a : Act} {X : World} {g : Nat} {v0 v1 v2 : Value} (hp : a.tmps.getD p undef = .pointer (some ⟨g, 0, none⟩)) (hH : Has X g 57 [v0, v1, v2])
    (hdf : a.defers = []) {E : Value} (hE : a.tmps.getD u undef = E) {R : Ending → World → Prop} (hR : R (.returned (.tuple #[.agg #[v0, v1, v2], E])) X) : bodyPost Tryz.prog f R .ret a X := by
  refine Kd.ret_row h _ hp hH rfl Tryz.underlying57 rfl size_type hdf ?_
  rw [hE]
  exact hR
def hasT (l : List Ty) (i : Int) : Bool := decide (1 ≤ i ∧ i ≤ (l.length : Int))
def getT (l : List Ty) (i : Int) : Ty := if 1 ≤ i ∧ i ≤ (l.length : Int) then l.getD (i - 1).toNat Ty.zero else Ty.zero
theorem hasT_no {l : List Ty} {i : Int} (h : ¬ (1 ≤ i ∧ i ≤ (l.length : Int))) : hasT l i = false ∧ getT l i = Ty.zero := ⟨decide_eq_false h, if_neg h⟩
theorem hasT_yes {l : List Ty} {i : Int} {t : Nat} (h : i - 1 = (t : Int)) (ht : t < l.length) : hasT l i = true ∧ getT l i = l.getD t Ty.zero := by
  have hc : 1 ≤ i ∧ i ≤ (l.length : Int) := by omega
  refine ⟨decide_eq_true hc, ?_⟩
  rw [getT, if_pos hc, h]
  rfl
set_option maxRecDepth 100000 in
set_option maxHeartbeats 1000000 in
theorem item_ok {w : World} {p : Nat} {A : Option Addr} {c : Nat} {l : List Ty} (h : Tab w p A c l) (i : Int) (hi0 : -9223372036854775808 ≤ i) (hi1 : i ≤ 9223372036854775807) :
    Calls Tryz.prog 48 #[.pointer (some ⟨p, 0, none⟩), .int .i64 i] w fun e w' => e = .returned (.tuple #[(getT l i).val, .bool (hasT l i)]) ∧ Kept [] w w' := by
  have HC := Lib.hid (fun x (k : Kept [] w x) => count_ok (h.keep0 k))
  have hk0 : ∀ o, Kept [] w (w.alloc o) := fun o => (Kept.refl [] w).alloc o
  have hlen := h.len
  have hb0 : Has (w.alloc (.cells #[.int .u8 0, .int .i64 0, .int .u64 0] 57)) w.heap.size 57 [.int .u8 0, .int .i64 0, .int .u64 0] := Has.new w _ _
  have hB : w.heap.size ≤ w.heap.size := Nat.le_refl _
  unfold Ty.val
  by_cases h1 : i < 1
  · obtain ⟨e1, e2⟩ := hasT_no (l := l) (i := i) (by omega)
    rw [e1, e2]
    unfold Ty.zero
    clear HC e1 e2 h
    go_enter Tryz.func48, Tryz.ntmps48
    go_wp2_with fail
    refine ret_ty0 rfl rfl (hb0.alloc _) rfl rfl ⟨rfl, (hk0 _).alloc _⟩
  · by_cases h2 : i > (l.length : Int)
    · obtain ⟨e1, e2⟩ := hasT_no (l := l) (i := i) (by omega)
      rw [e1, e2]
      unfold Ty.zero
      clear e1 e2 h
      have Hb := Lib.hid hb0
      have Hk := Lib.hid (hk0 (.cells #[.int .u8 0, .int .i64 0, .int .u64 0] 57))
      clear hb0 hk0 hB
      go_enter Tryz.func48, Tryz.ntmps48
      go_wp2_with fail
      refine (HC.out _ Hk.out).mono ?_
      rintro e w1 ⟨rfl, hk1⟩
      have hz := Hb.out.keep0 hk1
      have hk := Hk.out.trans hk1
      clear hk1 HC Hb Hk
      obtain ⟨d0, d1, d2⟩ : (∀ o, (w1.alloc o).cell? ⟨w.heap.size, 0, none⟩ = some (.int .u8 0)) ∧ (∀ o, (w1.alloc o).cell? ⟨w.heap.size, 1, none⟩ = some (.int .i64 0)) ∧ (∀ o, (w1.alloc o).cell? ⟨w.heap.size, 2, none⟩ = some (.int .u64 0)) := ⟨fun o => (cells3 (hz.alloc o)).1, fun o => (cells3 (hz.alloc o)).2.1, fun o => (cells3 (hz.alloc o)).2.2⟩
      obtain ⟨f0, f1, f2⟩ : (∀ o, (w1.alloc o).frozen? ⟨w.heap.size, 0, none⟩ = false) ∧ (∀ o, (w1.alloc o).frozen? ⟨w.heap.size, 1, none⟩ = false) ∧ (∀ o, (w1.alloc o).frozen? ⟨w.heap.size, 2, none⟩ = false) := ⟨fun o => (free3 (hz.alloc o)).1, fun o => (free3 (hz.alloc o)).2.1, fun o => (free3 (hz.alloc o)).2.2⟩
      have Hz := Lib.hid hz
      have HK := Lib.hid hk
      have HB := Lib.hid (Nat.le_refl w.heap.size)
      clear hz hk
      generalize hB0 : w.heap.size = B at *
      have HB2 : Hid (w.heap.size = B) := Lib.hid hB0
      clear hB0
      go_wp2_with fail
      (try simp only [Exit.inBlock, Exit.then])
      refine ret_ty (w0 := w) (w := w1.alloc _) rfl rfl (Hz.out.alloc _) (HK.out.alloc _) (HB2.out ▸ HB.out) rfl rfl ?_
      exact fun X hX => ⟨rfl, hX⟩
    · obtain ⟨t, ht⟩ : ∃ t : Nat, i - 1 = (t : Int) := ⟨(i - 1).toNat, by omega⟩
      have htl : t < l.length := by omega
      obtain ⟨e1, e2⟩ := hasT_yes ht htl
      rw [e1, e2]
      clear e1 e2
      obtain ⟨g, f, rfl, hg, hcells⟩ := (Own.seen h.own).at t htl _ rfl
      generalize l.getD t Ty.zero = x at *
      have hp := fun y (k : Kept [] w y) => cell1 (h.head.keep0 k)
      clear h
      have Hb := Lib.hid hb0
      have Hk := Lib.hid (hk0 (.cells #[.int .u8 0, .int .i64 0, .int .u64 0] 57))
      have Hc := Lib.hid hcells
      have Hp := Lib.hid hp
      clear hb0 hk0 hB hcells hp
      go_enter Tryz.func48, Tryz.ntmps48
      go_wp2_with fail
      refine (HC.out _ Hk.out).mono ?_
      rintro e w1 ⟨rfl, hk1⟩
      have hz := Hb.out.keep0 hk1
      have hk := Hk.out.trans hk1
      obtain ⟨c0, c1, c2⟩ := Hc.out w1 hk
      have cp := Hp.out w1 hk
      clear hk1 HC Hb Hk Hc Hp
      obtain ⟨f0, f1, f2⟩ := free3 hz
      obtain ⟨d0, d1, d2⟩ := cells3 hz
      have Hz := Lib.hid hz
      have HK := Lib.hid hk
      have HB := Lib.hid (Nat.le_refl w.heap.size)
      clear hz hk
      generalize hB0 : w.heap.size = B at *
      have HB2 : Hid (w.heap.size = B) := Lib.hid hB0
      clear hB0
      go_wp2_with fail
      (try simp only [Exit.inBlock, Exit.then])
      refine ret_ty (w0 := w) (w := w1) rfl rfl Hz.out HK.out (HB2.out ▸ HB.out) rfl rfl ?_
      exact fun X hX => ⟨rfl, hX⟩
def blk (A : Option Addr) : List Nat := match A with | some a => [a.block] | none => []
theorem own_blk (A : Option Addr) (n c : Nat) : ∀ g ∈ blk A, (Value.slice A n c).ownBlock = some g := by
  cases A with
  | none => intro g hg; cases hg
  | some a => intro g hg; simp only [blk, List.mem_singleton] at hg; subst hg; rfl
theorem blk_own {A : Option Addr} {n c g : Nat} (h : (Value.slice A n c).ownBlock = some g) : g ∈ blk A := by
  cases A with
  | none => cases h
  | some a => simp only [Value.ownBlock, Option.some.injEq] at h; subst h; exact List.mem_singleton.2 rfl
theorem pushed {w y w1 : World} {p : Nat} {A : Option Addr} {c : Nat} {l : List Ty} {x : Ty} {g cap : Nat} (h : Tab w p A c l) (hx : x.ok ∧ x.fit) (hl : l.length < 64) (k : Kept [] w y) (hgr : y.grownBy w1 (Value.slice A l.length c).ownBlock)
    (hO : Own w1 (.slice (some ⟨g, 0, none⟩) (l.length + 1) cap) (l ++ [x])) (hat : (Value.slice A l.length c).ownBlock = some g ∨ g = y.heap.size) :
    Tab (w1.setCell ⟨p, 0, none⟩ (.slice (some ⟨g, 0, none⟩) (l.length + 1) cap)) p (some ⟨g, 0, none⟩) cap (l ++ [x]) ∧ Kept (p :: blk A) w (w1.setCell ⟨p, 0, none⟩ (.slice (some ⟨g, 0, none⟩) (l.length + 1) cap)) ∧ ∀ g' ∈ blk (some ⟨g, 0, none⟩), g' ∈ blk A ∨ w.heap.size ≤ g' := by
  have kk : Kept (blk A) w w1 := (k.none (blk A)).grown hgr fun g e => .inl (blk_own e)
  have hp := h.head.kept kk fun hp => (h.own.block_type h.head (by decide)) (own_blk A _ c _ hp)
  have hlen : (l ++ [x]).length = l.length + 1 := by rw [List.length_append]; rfl
  have kp : Kept [p] w1 (w1.setCell ⟨p, 0, none⟩ (.slice (some ⟨g, 0, none⟩) (l.length + 1) cap)) := (Kept.refl [p] w1).setCell _ _ (.inl (by simp))
  refine ⟨⟨?_, ?_, ⟨(fun e => by cases e), (fun e => by simp at e)⟩, (by omega), ?_⟩, ?_, ?_⟩
  · rw [hlen]
    exact hp.put 0 _
  · rw [hlen]
    exact hO.kept kp fun g' hg' e => by
      obtain rfl := List.mem_singleton.1 hg'
      exact (hO.block_type hp (by decide)) e
  · intro z hz
    rcases List.mem_append.1 hz with hz | hz
    · exact h.all z hz
    · obtain rfl := List.mem_singleton.1 hz
      exact hx
  · exact (kk.mono fun i hi => List.mem_cons_of_mem _ hi).trans (kp.mono fun i hi => by rw [List.mem_singleton.1 hi]; simp)
  · intro g' hg'
    obtain rfl : g' = g := List.mem_singleton.1 hg'
    rcases hat with e | e
    · exact .inl (blk_own e)
    · exact .inr (by rw [e]; exact k.more)
set_option maxRecDepth 100000 in
set_option maxHeartbeats 1000000 in
theorem push_ok {w : World} {p : Nat} {A : Option Addr} {c : Nat} {l : List Ty} (h : Tab w p A c l) (x : Ty) (hx : x.ok ∧ x.fit) (hl : l.length < 64) :
    Calls Tryz.prog 65 #[.pointer (some ⟨p, 0, none⟩), x.val] w fun e w' => ∃ A' c', e = .returned (.int .i64 ((l.length : Int) + 1)) ∧ Tab w' p A' c' (l ++ [x]) ∧ Kept (p :: blk A) w w' ∧ ∀ g ∈ blk A', g ∈ blk A ∨ w.heap.size ≤ g := by
  have hk0 : Kept [] w (w.alloc (.cells #[.int .u8 (x.k : Int), .int .i64 x.wd, .int .u64 (x.ms : Int)] 57)) := (Kept.refl [] w).alloc _
  have hb0 : Has (w.alloc (.cells #[.int .u8 (x.k : Int), .int .i64 x.wd, .int .u64 (x.ms : Int)] 57)) w.heap.size 57 [.int .u8 (x.k : Int), .int .i64 x.wd, .int .u64 (x.ms : Int)] := Has.new w _ _
  unfold Ty.val
  go_enter Tryz.func65, Tryz.ntmps65
  go_wp2_with fail
  generalize w.alloc (.cells #[.int .u8 (x.k : Int), .int .i64 x.wd, .int .u64 (x.ms : Int)] 57) = W at *
  generalize hB : w.heap.size = B at *
  have cp := cell1 (h.head.keep0 hk0)
  have cpo := fun o => cell1 ((h.head.keep0 hk0).alloc o)
  obtain ⟨d0, d1, d2⟩ := cells3 hb0
  have HT := Lib.hid h
  have HK := Lib.hid hk0
  have HB := Lib.hid hb0
  have HO : Hid (∀ y, Kept [] W y → Own y (.slice A l.length c) l) := Lib.hid fun y k => (h.keep0 (hk0.trans k)).own
  have hlen : l.length + 1 ≤ 1073741824 := by omega
  have HF : Hid (∀ y z, Kept [] W y → y.grownBy z (Value.slice A l.length c).ownBlock → z.cell? ⟨p, 0, none⟩ = some (.slice A l.length c) ∧ z.cell? ⟨B, 0, none⟩ = some (.int .u8 (x.k : Int)) ∧ z.cell? ⟨B, 1, none⟩ = some (.int .i64 x.wd) ∧ z.cell? ⟨B, 2, none⟩ = some (.int .u64 (x.ms : Int)) ∧ z.frozen? ⟨p, 0, none⟩ = false) := Lib.hid fun y z k hg => by
    have kk : Kept (blk A) W z := (k.none (blk A)).grown hg fun g e => .inl (blk_own e)
    have hp := (h.head.keep0 hk0).kept kk fun hp => (h.own.block_type h.head (by decide)) (own_blk A _ c _ hp)
    have hb := hb0.kept kk fun hp => by
      have := h.own.lt _ (own_blk A l.length c _ hp)
      rw [hB] at this
      exact Nat.lt_irrefl _ this
    exact ⟨cell1 hp, (cells3 hb).1, (cells3 hb).2.1, (cells3 hb).2.2, hp.free 0⟩
  have HX := Lib.hid hx
  have HL := Lib.hid hl
  clear h hk0 hb0 hl hx hB
  go_region_law ((refine step_append_type (by rfl) (.tmp 9) (.tmp 11) (by rfl) (.slice A l.length c) l (by rfl) (HO.out _ (by first | exact (((Kept.refl [] W).alloc _).drew) | exact ((((Kept.refl [] W).drew).alloc _)))) _ 1 x (by rfl) (by first | exact (Has.new W _ _).drew | exact (Has.new W.drew _ _)) hlen _ rfl ?_; intro g cap w1 hO1 hgr hat hlt; obtain ⟨z0, z1, z2, z3, z4⟩ := HF.out _ _ (by first | exact (((Kept.refl [] W).alloc _).drew) | exact ((((Kept.refl [] W).drew).alloc _))) hgr; have HP := Lib.hid (pushed HT.out HX.out HL.out (HK.out.trans (by first | exact (((Kept.refl [] W).alloc _).drew) | exact ((((Kept.refl [] W).drew).alloc _)))) hgr hO1 hat); clear hgr hO1 hat hlt))
  all_goals
    go_wp2_with fail
    refine (count_ok HP.out.1).mono ?_
    rintro e w2 ⟨rfl, hk2⟩
    have HK2 := Lib.hid hk2
    clear hk2 z0 z1 z2 z3 z4
    go_wp2_with fail
    go_ret
    exact ⟨_, _, rfl, HP.out.1.keep0 HK2.out, HP.out.2.1.trans (HK2.out.none _), HP.out.2.2⟩
end Go.Proofs.YtoagghileebokaaGreatDoor.Tb

/-
  The contracts of a table's methods: Len, Get.
-/
namespace Go.Proofs.YtoagghileebokaaGreatDoor.Tb
open Go.RowKit Go.Proofs.YtoagghileebokaaGreatDoor.Ar Go.Maps
set_option linter.unusedVariables false

section
variable {w : World} {p : Nat} {A : Option Addr} {c : Nat} {l : List Ty}
def errT (b : Bool) : Int := if b then 0 else 3
set_option maxRecDepth 100000 in
set_option maxHeartbeats 1000000 in
theorem get_ok (h : Tab w p A c l) (i : Int) (hi0 : -9223372036854775808 ≤ i) (hi1 : i ≤ 9223372036854775807) :
    Calls Tryz.prog 26 #[.pointer (some ⟨p, 0, none⟩), .int .i64 i] w fun e w' => e = .returned (.tuple #[(getT l i).val, .int .i64 (errT (hasT l i))]) ∧ Kept [] w w' := by
  have HC := Lib.hid (fun x (k : Kept [] w x) => item_ok (h.keep0 k) i hi0 hi1)
  have hk0 : ∀ o, Kept [] w (w.alloc o) := fun o => (Kept.refl [] w).alloc o
  have hb0 : Has (w.alloc (.cells #[.int .u8 0, .int .i64 0, .int .u64 0] 57)) w.heap.size 57 [.int .u8 0, .int .i64 0, .int .u64 0] := Has.new w _ _
  clear h
  have hz0 : hasT l i = false → getT l i = Ty.zero := fun h => if_neg (of_decide_eq_false h)
  generalize hasT l i = b at *
  generalize getT l i = x at *
  unfold Ty.val at *
  have Hb := Lib.hid hb0
  have Hk := Lib.hid (hk0 (.cells #[.int .u8 0, .int .i64 0, .int .u64 0] 57))
  have Hz0 := Lib.hid hz0
  clear hb0 hk0 hz0
  go_enter Tryz.func26, Tryz.ntmps26
  go_wp2_with fail
  refine (HC.out _ Hk.out).mono ?_
  rintro e w1 ⟨rfl, hk1⟩
  have hz := Hb.out.keep0 hk1
  have hk := Hk.out.trans hk1
  clear hk1 HC Hb Hk
  have d0 := fun o => (cells3 (hz.alloc o)).1
  have d1 := fun o => (cells3 (hz.alloc o)).2.1
  have d2 := fun o => (cells3 (hz.alloc o)).2.2
  have f0 := fun o => (free3 (hz.alloc o)).1
  have f1 := fun o => (free3 (hz.alloc o)).2.1
  have f2 := fun o => (free3 (hz.alloc o)).2.2
  have Hz := Lib.hid hz
  have HK := Lib.hid hk
  have HB := Lib.hid (Nat.le_refl w.heap.size)
  clear hz hk
  generalize hB0 : w.heap.size = B at *
  have HB2 : Hid (w.heap.size = B) := Lib.hid hB0
  clear hB0
  cases b with
  | true =>
    go_wp2_with fail
    (try simp only [Exit.inBlock, Exit.then])
    refine ret_ty (w0 := w) (w := w1.alloc _) rfl rfl (Hz.out.alloc _) (HK.out.alloc _) (HB2.out ▸ HB.out) rfl rfl ?_
    exact fun X hX => ⟨rfl, hX⟩
  | false =>
    obtain rfl := Hz0.out rfl
    go_wp2_with fail
    (try simp only [Exit.inBlock, Exit.then])
    refine ret_ty (w0 := w) (w := w1.alloc _) rfl rfl (Hz.out.alloc _) (HK.out.alloc _) (HB2.out ▸ HB.out) rfl rfl ?_
    exact fun X hX => ⟨rfl, hX⟩
set_option maxRecDepth 100000 in
theorem get_nil (w : World) (i : Int) : Calls Tryz.prog 26 #[.pointer none, .int .i64 i] w fun e w' => e = .returned (.tuple #[Ty.zero.val, .int .i64 1]) ∧ Kept [] w w' := by
  have hb0 : Has (w.alloc (.cells #[.int .u8 0, .int .i64 0, .int .u64 0] 57)) w.heap.size 57 [.int .u8 0, .int .i64 0, .int .u64 0] := Has.new w _ _
  go_enter Tryz.func26, Tryz.ntmps26
  go_wp2_with fail
  refine ret_ty0 rfl rfl hb0 rfl rfl ⟨rfl, (Kept.refl [] w).alloc _⟩
end
end Go.Proofs.YtoagghileebokaaGreatDoor.Tb

/-
  The contracts of Size, Add, Copy.
-/
namespace Go.Proofs.YtoagghileebokaaGreatDoor.Tb
open Go.RowKit Go.Proofs.YtoagghileebokaaGreatDoor.Ar Go.Maps
set_option linter.unusedVariables false

/-- What Size answers. -/
def sizeT (l : List Ty) (i n : Int) : Int := if hasT l i then Kd.sizeR (getT l i).k (getT l i).wd (getT l i).ms n else 0
def sizeE (l : List Ty) (i n : Int) : Int := if hasT l i then Kd.err (getT l i).k (getT l i).wd (getT l i).ms n else 3
theorem getT_ok {l : List Ty} (h : ∀ x ∈ l, x.ok ∧ x.fit) (i : Int) : (getT l i).ok := by
  unfold getT
  split
  · rename_i hc
    have : (i - 1).toNat < l.length := by omega
    rw [List.getD_eq_getElem?_getD, List.getElem?_eq_getElem this]
    exact (h _ (List.getElem_mem this)).1
  · exact ⟨by decide, by decide⟩
section
variable {w : World} {p : Nat} {A : Option Addr} {c : Nat} {l : List Ty}
set_option maxRecDepth 100000 in
set_option maxHeartbeats 1000000 in
theorem size_ok (h : Tab w p A c l) (i n : Int) (hi0 : -9223372036854775808 ≤ i) (hi1 : i ≤ 9223372036854775807) :
    Calls Tryz.prog 10 #[.pointer (some ⟨p, 0, none⟩), .int .i64 i, .int .i64 n] w fun e w' => e = .returned (.tuple #[.int .i64 (sizeT l i n), .int .i64 (sizeE l i n)]) ∧ Kept [] w w' := by
  have HC := Lib.hid (get_ok h i hi0 hi1)
  have HS := Lib.hid (fun x => Kd.size_ok (getT l i).k (getT l i).wd (getT l i).ms n (getT_ok h.all i).1 (getT_ok h.all i).2 x)
  clear h
  unfold sizeT sizeE
  unfold Kd.typV at HS
  generalize hasT l i = b at *
  generalize getT l i = x at *
  unfold Ty.val at *
  generalize Kd.sizeR x.k x.wd x.ms n = s at *
  generalize Kd.err x.k x.wd x.ms n = er at *
  cases b with
  | true =>
    go_enter Tryz.func10, Tryz.ntmps10
    go_wp2_with fail
    refine HC.out.mono ?_
    rintro e w1 ⟨rfl, h1⟩
    have H1 := Lib.hid h1
    clear h1
    simp only [errT, if_true]
    go_wp2_with fail
    refine (HS.out _).mono ?_
    rintro e w2 ⟨rfl, h2⟩
    have H2 := Lib.hid ((H1.out.alloc _).trans h2)
    clear h2 HS HC
    go_wp2_with fail
    go_ret2
    exact ⟨rfl, H2.out⟩
  | false =>
    clear HS
    go_enter Tryz.func10, Tryz.ntmps10
    go_wp2_with fail
    refine HC.out.mono ?_
    rintro e w1 ⟨rfl, h1⟩
    have H1 := Lib.hid (h1.alloc (.cells #[.int .u8 x.k, .int .i64 x.wd, .int .u64 x.ms] 57))
    clear h1 HC
    simp only [errT, if_false, Bool.false_eq_true]
    go_wp2_with fail
    go_ret2
    exact ⟨rfl, H1.out⟩
set_option maxRecDepth 100000 in
theorem size_nil (w : World) (i n : Int) : Calls Tryz.prog 10 #[.pointer none, .int .i64 i, .int .i64 n] w fun e w' => e = .returned (.tuple #[.int .i64 0, .int .i64 1]) ∧ Kept [] w w' := by
  have HC := Lib.hid (get_nil w i)
  unfold Ty.val Ty.zero at HC
  go_enter Tryz.func10, Tryz.ntmps10
  go_wp2_with fail
  refine HC.out.mono ?_
  rintro e w1 ⟨rfl, h1⟩
  have H1 := Lib.hid h1
  clear h1 HC
  go_wp2_with fail
  go_ret2
  exact ⟨rfl, H1.out.alloc _⟩
end
/-- The error of an Add. -/
def addE (l : List Ty) (x : Ty) : Int := if ¬ x.fit then 2 else if 64 ≤ l.length then 4 else 0
theorem fit_err {x : Ty} (h : x.fit) : Kd.err x.k x.wd x.ms 0 = 0 := by
  unfold Kd.err
  rw [if_neg (by
    rintro (h1 | h1 | h1)
    · exact h1 h
    · omega
    · omega), if_neg (by omega)]
theorem nofit_err {x : Ty} (h : ¬ x.fit) : Kd.err x.k x.wd x.ms 0 = 2 := by
  unfold Kd.err
  rw [if_pos (.inl h)]
def addL (l : List Ty) (x : Ty) : List Ty := if addE l x = 0 then l ++ [x] else l
def addN (l : List Ty) (x : Ty) : Int := if addE l x = 0 then (l.length : Int) + 1 else 0
/-- What an Add leaves. -/
def AddPost (w : World) (p : Nat) (A : Option Addr) (l : List Ty) (x : Ty) (e : Ending) (w' : World) : Prop :=
  ∃ A' c', e = .returned (.tuple #[.int .i64 (addN l x), .int .i64 (addE l x)]) ∧ Tab w' p A' c' (addL l x) ∧ Kept (p :: blk A) w w' ∧ ∀ g ∈ blk A', g ∈ blk A ∨ w.heap.size ≤ g
set_option maxRecDepth 100000 in
set_option maxHeartbeats 1000000 in
theorem add_ok {w : World} {p : Nat} {A : Option Addr} {c : Nat} {l : List Ty} (h : Tab w p A c l) (x : Ty) (hx : x.ok) :
    Calls Tryz.prog 38 #[.pointer (some ⟨p, 0, none⟩), x.val] w (AddPost w p A l x) := by
  have HCh := Lib.hid (fun y => Kd.check_ok x.k x.wd x.ms hx.1 hx.2 y)
  unfold Kd.typV at HCh
  have hk0 : Kept [] w (w.alloc (.cells #[.int .u8 (x.k : Int), .int .i64 x.wd, .int .u64 (x.ms : Int)] 57)) := (Kept.refl [] w).alloc _
  have hb0 : Has (w.alloc (.cells #[.int .u8 (x.k : Int), .int .i64 x.wd, .int .u64 (x.ms : Int)] 57)) w.heap.size 57 [.int .u8 (x.k : Int), .int .i64 x.wd, .int .u64 (x.ms : Int)] := Has.new w _ _
  have HCo := Lib.hid (fun y (k : Kept [] w y) => count_ok (h.keep0 k))
  have HT := Lib.hid h
  have hlen := h.len
  by_cases hf : x.fit
  · rw [fit_err hf] at HCh
    by_cases hl : 64 ≤ l.length
    · have e0 : addE l x = 4 := by unfold addE; rw [if_neg (by simpa using hf), if_pos hl]
      have HP : Hid (∀ y, Kept [] w y → AddPost w p A l x (.returned (.tuple #[.int .i64 0, .int .i64 4])) y) := Lib.hid fun y k => by
        refine ⟨A, c, ?_, ?_, k.none _, fun g hg => .inl hg⟩
        · unfold addN
          rw [e0, if_neg (by decide)]
        · unfold addL
          rw [e0, if_neg (by decide)]
          exact h.keep0 k
      have hl2 : (64 : Int) ≤ (l.length : Int) := by omega
      clear e0 hf h hx hl HT
      unfold Ty.val
      go_enter Tryz.func38, Tryz.ntmps38
      go_wp2_with fail
      refine (HCh.out _).mono ?_
      rintro e w1 ⟨rfl, hk1⟩
      have HK := Lib.hid (hk0.trans hk1)
      clear hk1 hk0 hb0 HCh
      go_wp2_with fail
      refine (HCo.out _ HK.out).mono ?_
      rintro e w2 ⟨rfl, hk2⟩
      have HK2 := Lib.hid (HK.out.trans hk2)
      clear hk2 HK HCo
      go_wp2_with fail
      go_ret2
      exact HP.out _ HK2.out
    · have e0 : addE l x = 0 := by unfold addE; rw [if_neg (by simpa using hf), if_neg hl]
      have HP : Hid (∀ y, Kept [] w y → Calls Tryz.prog 65 #[.pointer (some ⟨p, 0, none⟩), .agg #[.int .u8 (x.k : Int), .int .i64 x.wd, .int .u64 (x.ms : Int)]] y fun e w' => e = .returned (.int .i64 ((l.length : Int) + 1)) ∧ AddPost w p A l x (.returned (.tuple #[.int .i64 ((l.length : Int) + 1), .int .i64 0])) w') := Lib.hid fun y k => by
        refine (push_ok (h.keep0 k) x ⟨hx, hf⟩ (by omega)).mono ?_
        rintro e w' ⟨A', c', rfl, h1, h2, h3⟩
        refine ⟨rfl, A', c', ?_, ?_, (k.none _).trans h2, fun g hg => (h3 g hg).imp id fun h => Nat.le_trans k.more h⟩
        · unfold addN
          rw [e0, if_pos rfl]
        · unfold addL
          rw [e0, if_pos rfl]
          exact h1
      have hl2 : ¬ (64 : Int) ≤ (l.length : Int) := by omega
      clear e0 hf h hx hl HT
      unfold Ty.val
      go_enter Tryz.func38, Tryz.ntmps38
      go_wp2_with fail
      refine (HCh.out _).mono ?_
      rintro e w1 ⟨rfl, hk1⟩
      have HK := Lib.hid (hk0.trans hk1)
      have HB := Lib.hid (hb0.keep0 hk1)
      clear hk1 hk0 hb0 HCh
      go_wp2_with fail
      refine (HCo.out _ HK.out).mono ?_
      rintro e w2 ⟨rfl, hk2⟩
      have HK2 := Lib.hid (HK.out.trans hk2)
      obtain ⟨b0, b1, b2⟩ := cells3 (HB.out.keep0 hk2)
      clear hk2 HK HCo HB
      go_wp2_with fail
      go_region_with ((refine (HP.out _ HK2.out.drew).mono ?_; rintro e w3 ⟨rfl, hap⟩; have HAP := Lib.hid hap; clear hap))
      go_wp2_with fail
      go_ret2
      exact HAP.out
  · have e0 : addE l x = 2 := by unfold addE; rw [if_pos hf]
    rw [nofit_err hf] at HCh
    have HP : Hid (∀ y, Kept [] w y → AddPost w p A l x (.returned (.tuple #[.int .i64 0, .int .i64 2])) y) := Lib.hid fun y k => by
      refine ⟨A, c, ?_, ?_, k.none _, fun g hg => .inl hg⟩
      · unfold addN
        rw [e0, if_neg (by decide)]
      · unfold addL
        rw [e0, if_neg (by decide)]
        exact h.keep0 k
    clear e0 hf h hx HT HCo hlen
    unfold Ty.val
    go_enter Tryz.func38, Tryz.ntmps38
    go_wp2_with fail
    refine (HCh.out _).mono ?_
    rintro e w1 ⟨rfl, hk1⟩
    have HK := Lib.hid (hk0.trans hk1)
    clear hk1 hk0 hb0 HCh
    go_wp2_with fail
    go_ret2
    exact HP.out _ HK.out
end Go.Proofs.YtoagghileebokaaGreatDoor.Tb

/-
  The contract of New.
-/
namespace Go.Proofs.YtoagghileebokaaGreatDoor.Tb
open Go.RowKit Go.Proofs.YtoagghileebokaaGreatDoor.Ar Go.Maps
set_option linter.unusedVariables false

/-- Types added one by one, until one is refused. -/
def newF (acc : List Ty) : List Ty → List Ty × Int
  | [] => (acc, 0)
  | x :: l => if addE acc x = 0 then newF (acc ++ [x]) l else ([], addE acc x)
theorem drop_get {l : List Ty} {j : Nat} (h : j < l.length) : l.drop j = l.getD j Ty.zero :: l.drop (j + 1) := by
  rw [List.drop_eq_getElem_cons h, List.getD_eq_getElem?_getD, List.getElem?_eq_getElem h]
  rfl
theorem take_get {l : List Ty} {j : Nat} (h : j < l.length) : l.take (j + 1) = l.take j ++ [l.getD j Ty.zero] := by
  rw [List.take_add_one, List.getD_eq_getElem?_getD, List.getElem?_eq_getElem h]
  rfl
theorem newF_step {l : List Ty} {j : Nat} (h : j < l.length) (he : addE (l.take j) (l.getD j Ty.zero) = 0) : newF (l.take j) (l.drop j) = newF (l.take (j + 1)) (l.drop (j + 1)) := by
  rw [drop_get h, take_get h]
  show (if _ then _ else _) = _
  rw [if_pos he]
theorem newF_stop {l : List Ty} {j : Nat} (h : j < l.length) (he : ¬ addE (l.take j) (l.getD j Ty.zero) = 0) : newF (l.take j) (l.drop j) = ([], addE (l.take j) (l.getD j Ty.zero)) := by
  rw [drop_get h]
  show (if _ then _ else _) = _
  rw [if_neg he]
theorem newF_all {l : List Ty} : newF (l.take l.length) (l.drop l.length) = (l, 0) := by
  rw [List.take_length, List.drop_length]
  rfl
theorem getD_ok {l : List Ty} (h : ∀ x ∈ l, x.ok) {j : Nat} (hj : j < l.length) : (l.getD j Ty.zero).ok := by
  rw [List.getD_eq_getElem?_getD, List.getElem?_eq_getElem hj]
  exact h _ (List.getElem_mem hj)
/-- A table of the call's own making: what New, Read and Copy hand back. -/
def Made (w w' : World) (p : Nat) (A : Option Addr) (c : Nat) (l : List Ty) : Prop := Tab w' p A c l ∧ w.heap.size ≤ p ∧ (∀ g ∈ blk A, w.heap.size ≤ g) ∧ Kept [] w w'
def NewPost (w : World) (r : List Ty × Int) (e : Ending) (w' : World) : Prop :=
  (r.2 = 0 ∧ ∃ p A c, e = .returned (.tuple #[.pointer (some ⟨p, 0, none⟩), .int .i64 0]) ∧ Made w w' p A c r.1) ∨ (r.2 ≠ 0 ∧ e = .returned (.tuple #[.pointer none, .int .i64 r.2]) ∧ Kept [] w w')
theorem Made.later {w w' w2 : World} {p : Nat} {A : Option Addr} {c : Nat} {l : List Ty} (h : Made w w' p A c l) (k : Kept [] w' w2) : Made w w2 p A c l := ⟨h.1.keep0 k, h.2.1, h.2.2.1, h.2.2.2.trans k⟩
theorem Made.added {w w' w2 : World} {p : Nat} {A : Option Addr} {c : Nat} {l : List Ty} {x : Ty} {e : Ending} (h : Made w w' p A c l) (k : AddPost w' p A l x e w2) :
    ∃ A' c', e = .returned (.tuple #[.int .i64 (addN l x), .int .i64 (addE l x)]) ∧ Made w w2 p A' c' (addL l x) := by
  obtain ⟨A', c', rfl, h1, h2, h3⟩ := k
  refine ⟨A', c', rfl, h1, h.2.1, fun g hg => (h3 g hg).elim (h.2.2.1 g) fun hh => Nat.le_trans h.2.2.2.more hh, h.2.2.2.forget h2 fun i hi => ?_⟩
  rcases List.mem_cons.1 hi with rfl | hi
  · exact h.2.1
  · exact h.2.2.1 i hi
set_option maxRecDepth 100000 in
set_option maxHeartbeats 4000000 in
theorem new_ok {w : World} {A : Option Addr} {l : List Ty} (c : Nat) (hS : Seen w A l) (hok : ∀ x ∈ l, x.ok) (hlen : l.length ≤ 1073741824) :
    Calls Tryz.prog 19 #[.slice A l.length c] w (NewPost w (newF [] l)) := by
  have hT : Tab (w.alloc (.cells #[.slice none 0 0] 97)) w.heap.size none 0 [] := ⟨Has.new w _ _, Own.nil _, ⟨fun _ => rfl, fun _ => rfl⟩, by decide, fun x hx => by cases hx⟩
  have hM : Made w (w.alloc (.cells #[.slice none 0 0] 97)) w.heap.size none 0 [] := ⟨hT, Nat.le_refl _, (fun g hg => by cases hg), (Kept.refl [] w).alloc _⟩
  have HM := Lib.hid hM
  have HN : Hid (newF [] l = newF (l.take 0) (l.drop 0)) := Lib.hid rfl
  have HS := Lib.hid hS
  have HOK := Lib.hid hok
  clear hT hM hS hok
  go_enter Tryz.func19, Tryz.ntmps19
  go_wp2_with fail
  generalize w.alloc (.cells #[.slice none 0 0] 97) = W at *
  generalize hP : w.heap.size = P at *
  go_loopw [13] (fun t wr => ∃ j : Nat, t = .int .i64 (j : Int) ∧ j ≤ l.length ∧ ∃ A' c', Hid (Made w wr P A' c' (l.take j)) ∧ Hid (newF [] l = newF (l.take j) (l.drop j))) (fun t _ => l.length - (intOf t).toNat)
  case atStart => exact ⟨0, rfl, Nat.zero_le _, none, 0, HM, HN⟩
  case round =>
    obtain ⟨j, rfl, hj, A', c', hm, hn⟩ := hrel
    clear HM HN
    by_cases hlt : j < l.length
    · obtain ⟨g, f, rfl, hg, hcells⟩ := HS.out.at j hlt _ rfl
      obtain ⟨c0, c1, c2⟩ := hcells _ hm.out.2.2.2
      have HA := Lib.hid (fun y (k : Kept [] wr y) => add_ok (hm.out.1.keep0 k) (l.getD j Ty.zero) (getD_ok HOK.out hlt))
      unfold Ty.val at HA
      have HX := Lib.hid (rfl : l.getD j Ty.zero = l.getD j Ty.zero)
      generalize hx : l.getD j Ty.zero = x at HX HA c0 c1 c2
      have HX2 := Lib.hid hx
      clear hx HX hcells
      go_wp2_with fail
      refine (HA.out _ ((Kept.refl [] wr).alloc _)).mono ?_
      rintro e w1 hap
      obtain ⟨A1, c1', rfl, hm1⟩ := (hm.out.later ((Kept.refl [] wr).alloc _)).added hap
      have HM1 := Lib.hid hm1
      clear hap hm1 HA
      by_cases he : addE (l.take j) x = 0
      · have HN1 : Hid (newF [] l = newF (l.take (j + 1)) (l.drop (j + 1))) := Lib.hid (hn.out.trans (newF_step hlt (by rw [HX2.out]; exact he)))
        have HL1 : Hid (addL (l.take j) x = l.take (j + 1)) := Lib.hid (by unfold addL; rw [if_pos he, take_get hlt, HX2.out])
        have HM2 := Lib.hid (HL1.out ▸ HM1.out)
        rw [he]
        clear he hn HL1 HM1
        go_wp2_with fail
        go_roundw
        case rel => exact ⟨j + 1, by go_num, by omega, _, _, HM2, HN1⟩
        case measure => simp [intOf] <;> omega
      · have HN1 : Hid (newF [] l = ([], addE (l.take j) x)) := Lib.hid (hn.out.trans (by rw [newF_stop hlt (by rw [HX2.out]; exact he), HX2.out]))
        have hb : (addE (l.take j) x != 0) = true := by rw [bne_iff_ne]; exact he
        have HE := Lib.hid he
        clear he hn
        generalize addE (l.take j) x = er at *
        go_wp2_with fail
        go_ret2
        refine .inr ?_
        rw [HN1.out]
        exact ⟨HE.out, rfl, HM1.out.2.2.2⟩
    · obtain rfl : j = l.length := by omega
      have HN1 : Hid (newF [] l = (l, 0)) := Lib.hid (hn.out.trans newF_all)
      have HM1 : Hid (Made w wr P A' c' l) := Lib.hid (by have := hm.out; rwa [List.take_length] at this)
      clear hn hm
      go_wp2_with fail
      go_ret2
      refine .inl ?_
      rw [HN1.out]
      exact ⟨rfl, _, _, _, rfl, HM1.out⟩
end Go.Proofs.YtoagghileebokaaGreatDoor.Tb
