/-
  Several texts in one: RngR, FtGaps.
-/
import Derived.RangeFuncNested
import Derived.RangeFuncLeaves
import Derived.Test.YtoagghileebokaaGreatDoorG42
import Derived.Test.YtoagghileebokaaGreatDoorG22
import Derived.Test.YtoagghileebokaaGreatDoorG24
/-
  A loop over an iterator that itself goes over another one, and hands on what comes of it: such an iterator must know that a round of its caller's leaves its own loop's record as it is, and that the caller does not mind its record's turns. Its contract (SeqR), and the loop over it.
-/
namespace Go.Proofs.YtoagghileebokaaGreatDoor.Rk
open Go Go.RowKit
set_option linter.unusedVariables false

theorem ownFrom_up {β : Type} {B C : Nat} {I : β → World → Prop} (h : OwnFrom B I) (hBC : B ≤ C) : OwnFrom C I :=
  fun s W W' row hs hg hr => h s W W' row hs hg fun r e => ⟨Nat.le_trans hBC (hr r e).1, (hr r e).2⟩
theorem keepsFrom_up {B C : Nat} {W X : World} (h : KeepsFrom B W X) (hBC : B ≤ C) : KeepsFrom C W X := ⟨h.size, fun k o hk => h.same k o (Nat.le_trans hBC hk)⟩
theorem keepsFrom_putObj {B : Nat} (W : World) (r : Nat) (o : Obj) (h : r < B) : KeepsFrom B W (W.putObj r o) := KeepsFrom.of_grownBy (grownBy_putObj' W r o) fun j e => by cases e; exact h

section
variable {α : Type} {F : Fence} {n : Nat} {P : Program}
/-- K: what a round that goes on keeps; S, Sp: what is said of all, and of a part, that has come; R: what a round may know of those that came ahead of it. -/
def SeqR (F : Fence) (n : Nat) (P : Program) (g : Nat) (lb : Array Value) (encs : α → Array Value) (K : World → World → Prop) (S Sp : List α → Prop) (R : List α → α → Prop) (w : World) : Prop :=
  ∀ (l : Nat) (J Jx : List α → World → Prop) (W : World), Below w.heap.size w W → OwnFrom W.heap.size J → OwnFrom W.heap.size Jx →
    (∀ pre x W1, J pre W1 → R pre x → YieldAt F (n - 1) P l (encs x) W1 fun e W' => KeepsFrom W.heap.size W1 W' ∧
      ((e = .returned (.bool true) ∧ J (pre ++ [x]) W' ∧ K W1 W') ∨ (e = .returned (.bool false) ∧ Jx (pre ++ [x]) W'))) →
    J [] W → CallsIn F n P g (#[.func (.yield l) #[] #[]] ++ lb) W fun e W' => (∃ v, e = .returned v) ∧ ((∃ xs, S xs ∧ J xs W') ∨ ∃ pre, Sp pre ∧ Jx pre W')

/-- What an outermost loop keeps for itself: the block for deferred calls, and its record behind it. -/
structure Book (b : Nat) (r : Loop) (W : World) : Prop where
  mark : W.heap[b]? = some (.deferred (some []))
  loop : W.heap[b + 1]? = some (.loop r)
theorem Book.keeps {b : Nat} {r : Loop} {W X : World} (h : Book b r W) (k : KeepsFrom b W X) : Book b r X := ⟨k.same _ _ (Nat.le_refl _) h.mark rfl, k.same _ _ (by omega) h.loop rfl⟩
theorem Book.put {b : Nat} {r : Loop} {W : World} (h : Book b r W) (r' : Loop) : Book b r' (W.putObj (b + 1) (.loop r')) :=
  ⟨(World.putObj_heap_other (by omega)).trans h.mark, World.putObj_heap_same (Array.getElem?_eq_some_iff.1 h.loop).1⟩
theorem Book.own (b : Nat) (r : Loop) : OwnFrom (b + 2) (fun (_ : Unit) W => Book b r W) := fun _ W W' row h hg hr => by
  have far : ∀ i o, i < b + 2 → W.heap[i]? = some o → W'.heap[i]? = some o := fun i o hi hh =>
    (hg.block i (Array.getElem?_eq_some_iff.1 hh).1 fun e => by have := (hr i e.symm).1; omega).trans hh
  exact ⟨far _ _ (by omega) h.mark, far _ _ (by omega) h.loop⟩
/-- The loop's record. -/
def recOf (b fn : Nat) (tmps : Array Value) (ps : Array Tmp) (assign body : Code) (s : LoopState) (j : Option Code) : Loop := { state := s, pending := j, fn, tmps, params := ps, assign, body, defers := b }

/-- The loop over such an iterator. -/
theorem wpIn_range {g : Operand} {ps : Array Tmp} {assign body : Code} {Q : Exit → Act → World → Prop} {a : Act} {w : World}
    (hro : F.round = none) (h1 : 1 ≤ n) {gf : Nat} {lb : Array Value} (hg : a.eval g = .func (.func gf) #[] lb) (hFg : F.fn gf) (eg : ∀ args w, (callFunc gf args).run P w = .ok (.enter gf args) w)
    {encs : α → Array Value} {K : World → World → Prop} {S Sp : List α → Prop} {M : List α → α → Prop} {w0 : World} (hseq : SeqR F (n - 1) P gf lb encs K S Sp M w0)
    (hKt : ∀ {A B C : World}, K A B → K B C → K A C) (hKb : ∀ (W : World) (r r' : Loop), W.heap[w.heap.size + 1]? = some (.loop r) → K W (W.putObj (w.heap.size + 1) (.loop r'))) (hb0 : Below w0.heap.size w0 w) (hps : ∀ x, (encs x).size = ps.size)
    (I : List α → World → Prop) (Ix : Code → List α → World → Prop) (hI : OwnFrom w.heap.size I) (hIx : ∀ c, OwnFrom w.heap.size (Ix c)) (h0 : I [] w) (Ax : α → Act → World → Prop) (hAx : ∀ x a', OwnFrom w.heap.size (fun (_ : Unit) W => Ax x a' W))
    (hassign : ∀ (l : Nat) (pre : List α) (x : α) (W : World) (T : Act → World → Prop), I pre W → (∀ a' W', KeepsFrom w.heap.size W W' → K W W' → I pre W' → Ax x a' W' → T a' W') →
      assign.wpIn (F.inRound l) (n - 1 - 1) P (Exit.then T (fun _ _ _ => False)) { tmps := (ps.zip (encs x)).foldl (fun t (p, v) => t.setIfInBounds p v) a.tmps, defers := [] } W)
    (hbody : ∀ (l : Nat) (pre : List α) (x : α) (a' : Act) (W : World), I pre W → Ax x a' W → M pre x → body.wpIn (F.inRound l) (n - 1 - 1) P (ownPostG w.heap.size K I Ix (pre ++ [x]) W) a' W)
    (hdone : ∀ (D : Nat) (xs : List α) (W : World), w.heap.size ≤ D → S xs → I xs W → W.heap[D]? = some (.deferred (some [])) → Q .normal { a with defers := { target := .collected D, args := #[] } :: a.defers } W)
    (hstop : ∀ (D : Nat) (c : Code) (pre : List α) (W : World), w.heap.size ≤ D → Sp pre → Ix c pre W → W.heap[D]? = some (.deferred (some [])) → c.wpIn F n P Q { a with defers := { target := .collected D, args := #[] } :: a.defers } W) :
    (Code.rangeFunc g ps assign body).wpIn F n P Q a w := by
  refine wpIn_rangeFunc fun fn hfn => ?_
  rw [hro]
  obtain ⟨b, hb⟩ : ∃ b, w.heap.size = b := ⟨_, rfl⟩
  rw [hb] at hKb hI hIx hAx hassign hbody hdone hstop
  obtain ⟨R, hR⟩ : ∃ R, R = recOf b fn a.tmps ps assign body := ⟨_, rfl⟩
  obtain ⟨X, hX⟩ : ∃ X, (w.alloc (.deferred (some []))).alloc (.loop (R .ready none)) = X := ⟨_, rfl⟩
  have hXs : X.heap.size = b + 2 := by rw [← hX]; simp; omega
  have hXb : Book b (R .ready none) X := by
    rw [← hX, ← hb]
    refine ⟨(Below.heap_alloc _ _ _ (by simp)).trans (World.alloc_heap_new w _), ?_⟩
    have := World.alloc_heap_new (w.alloc (.deferred (some []))) (.loop (R .ready none))
    rwa [World.size_alloc] at this
  have hXi : I [] X := by rw [← hX]; exact hI.alloc _ (hI.alloc _ h0)
  have hXw : Below w0.heap.size w0 X := by
    rw [← hX]
    exact hb0.trans ((((Below.refl _ w).alloc (Nat.le_refl _) _).alloc (by simp) _).mono hb0.size)
  have hup : OwnFrom X.heap.size I := ownFrom_up hI (by omega)
  have iput : ∀ {W : World} {pre : List α} {r : Loop} (r' : Loop), I pre W → Book b r W → I pre (W.putObj (b + 1) (.loop r')) := fun r' hi hk => hI.putObj _ hi (by omega) hk.loop rfl
  have kput : ∀ {W : World} {r : Loop} (r' : Loop), Book b r W → K W (W.putObj (b + 1) (.loop r')) := fun r' hk => hKb _ _ r' hk.loop
  have fput : ∀ (W : World) (r' : Loop), KeepsFrom X.heap.size W (W.putObj (b + 1) (.loop r')) := fun W r' => keepsFrom_putObj W _ _ (by omega)
  refine ⟨b + 1, [{ target := .collected b, args := #[] }], X, { target := .fn (.func gf) lb, args := #[.func (.yield (b + 1)) #[] #[]] }, X, gf, #[.func (.yield (b + 1)) #[] #[]] ++ lb, X, ?_, ?_, ?_, ?_, fun _ => h1, ?_⟩
  · rw [← hX, hR, ← hb]
    exact run_enterLoop_outer _ _ _ _ _
  · simp only [resolve, hg]
    simp [go_sem]
  · intro f' hf'
    simp [Target.leads] at hf'
    subst hf'
    exact hFg
  · simp [invoke, go_sem, eg]
  · refine (hseq (b + 1) (fun pre W => I pre W ∧ Book b (R .ready none) W) (fun pre W => ∃ c, Ix c pre W ∧ Book b (R .done (some c)) W) X hXw
      (OwnFrom.and hup fun s W W' row hs hg hr => Book.own b _ () W W' row hs hg fun r e => by rw [← hXs]; exact hr r e)
      (fun s W W' row ⟨c, hs, hk⟩ hg hr => ⟨c, ownFrom_up (hIx c) (by omega) s W W' row hs hg hr, Book.own b _ () W W' row hk hg fun r e => by rw [← hXs]; exact hr r e⟩) ?_ ⟨hXi, hXb⟩).mono ?_
    · rintro pre x W ⟨hi, hk⟩ hlen
      have hy := run_yield (P := P) (args := encs x) hk.loop (by rw [hR]; exact hps x)
      refine ⟨fn, (ps.zip (encs x)).foldl (fun t (p, v) => t.setIfInBounds p v) a.tmps, assign, body, by rw [hR] at hy; exact hy, roundIn_of_wpIn hfn (hassign _ pre x W _ hi fun a' Y f1 k1 i1 x1 => ?_)⟩
      have b1 := hk.keeps f1
      refine ⟨_, run_beginRound b1.loop (by rw [hR]; rfl), ?_⟩
      have b2 := b1.put { R .ready none with state := .busy }
      have i2 := iput { R .ready none with state := .busy } i1 b1
      have x2 := (hAx x a').putObj (s := ()) (Obj.loop { R .ready none with state := .busy }) x1 (by omega) b1.loop rfl
      have k2 := hKt k1 (kput { R .ready none with state := .busy } b1)
      have f2 := (keepsFrom_up f1 (show b ≤ X.heap.size by omega)).trans (fput Y { R .ready none with state := .busy })
      refine wpIn_mono (hbody _ pre x a' _ i2 x2 hlen) ?_
      have out : ∀ (jump : Option Code) (Z : World), KeepsFrom b (Y.putObj (b + 1) (.loop { R .ready none with state := .busy })) Z →
          (Instr.endRound (b + 1) jump).run P Z = .ok (.bool jump.isNone) (Z.putObj (b + 1) (.loop (R (if jump.isNone then .ready else .done) jump))) ∧ Book b { R .ready none with state := .busy } Z ∧
          Book b (R (if jump.isNone then .ready else .done) jump) (Z.putObj (b + 1) (.loop (R (if jump.isNone then .ready else .done) jump))) ∧ KeepsFrom X.heap.size W (Z.putObj (b + 1) (.loop (R (if jump.isNone then .ready else .done) jump))) := fun jump Z f3 => by
        have b3 := b2.keeps f3
        have e := run_endRound (P := P) jump b3.loop
        refine ⟨?_, b3, b3.put _, (f2.trans (keepsFrom_up f3 (by omega))).trans (fput Z _)⟩
        rw [hR] at e ⊢
        exact e
      rintro e a3 Z hp
      cases e with
      | normal =>
        obtain ⟨f3, k3, i3⟩ := hp
        obtain ⟨o1, o2, o3, o4⟩ := out none Z f3
        exact ⟨_, _, o1, o4, .inl ⟨rfl, ⟨iput _ i3 o2, o3⟩, hKt k2 (hKt k3 (kput _ o2))⟩⟩
      | ret =>
        obtain ⟨f3, i3⟩ := hp
        obtain ⟨o1, o2, o3, o4⟩ := out (some .ret) Z f3
        exact ⟨_, _, o1, o4, .inr ⟨rfl, .ret, (hIx _).putObj _ i3 (by omega) o2.loop rfl, o3⟩⟩
      | exit id =>
        obtain ⟨f3, i3⟩ := hp
        obtain ⟨o1, o2, o3, o4⟩ := out (some (.exit id)) Z f3
        exact ⟨_, _, o1, o4, .inr ⟨rfl, .exit id, (hIx _).putObj _ i3 (by omega) o2.loop rfl, o3⟩⟩
      | goto t =>
        obtain ⟨f3, i3⟩ := hp
        obtain ⟨o1, o2, o3, o4⟩ := out (some (.goto t)) Z f3
        exact ⟨_, _, o1, o4, .inr ⟨rfl, .goto t, (hIx _).putObj _ i3 (by omega) o2.loop rfl, o3⟩⟩
      | panic ch => exact hp.elim
      | outgrown => exact hp.elim
    · rintro e Z ⟨⟨v, rfl⟩, (⟨xs, hS, hi, hk⟩ | ⟨pre, hSp, c, hi, hk⟩)⟩
      · refine ⟨none, _, ?_, hdone b xs _ (Nat.le_refl _) hS (iput { R .ready none with state := .exhausted } hi hk) (hk.put { R .ready none with state := .exhausted }).mark⟩
        have e := run_endLoop (P := P) hk.loop (by rw [hR]; simp [recOf])
        rw [e, hR]
        rfl
      · refine ⟨some c, _, ?_, hstop b c pre _ (Nat.le_refl _) hSp ((hIx c).putObj (.loop { R .done (some c) with state := .exhausted }) hi (by omega) hk.loop rfl) (hk.put { R .done (some c) with state := .exhausted }).mark⟩
        have e := run_endLoop (P := P) hk.loop (by rw [hR]; simp [recOf])
        rw [e, hR]
        rfl
end
end Go.Proofs.YtoagghileebokaaGreatDoor.Rk

/-
  Stage 13, fit: the loop over the gaps among cells: the contract of the function that gaps hands back.
-/
namespace Go.Proofs.YtoagghileebokaaGreatDoor.Ft
open Go.RowKit Go.Proofs.YtoagghileebokaaGreatDoor.Ar Go.Proofs.YtoagghileebokaaGreatDoor.Lk Go.Shelf Go.Sort
open Go.Proofs.YtoagghileebokaaGreatDoor.Sp (Cel El encs vals vals_snoc cells5 grownBy_of)
set_option linter.unusedVariables false
attribute [local go_sem] Oper.semAt_some

/-- The cells that are no objects. -/
def gapsF (cs : List Cel) : List Cel := cs.filter fun c => decide (c.h.tg ≠ 1)
theorem gaps_take {cs : List Cel} {j : Nat} (hj : j < cs.length) : gapsF (cs.take (j + 1)) = if (cs.getD j Cel.zero).h.tg = 1 then gapsF (cs.take j) else gapsF (cs.take j) ++ [cs.getD j Cel.zero] := by
  unfold gapsF
  rw [List.take_add_one, List.getElem?_eq_getElem hj, List.filter_append, List.getD_eq_getElem?_getD, List.getElem?_eq_getElem hj]
  by_cases h : cs[j].h.tg = 1 <;> simp [h]
theorem gaps_cut (cs : List Cel) (j : Nat) : gapsF cs = gapsF (cs.take j) ++ gapsF (cs.drop j) := by
  unfold gapsF
  rw [← List.filter_append, List.take_append_drop]
theorem gap_mem {cs : List Cel} {j : Nat} (hj : j < cs.length) (h : (cs.getD j Cel.zero).h.tg ≠ 1) : cs.getD j Cel.zero ∈ gapsF cs := by
  rw [List.getD_eq_getElem?_getD, List.getElem?_eq_getElem hj, Option.getD_some] at h ⊢
  exact List.mem_filter.2 ⟨List.getElem_mem hj, by simpa using h⟩
/-- What is known of those gaps that came ahead. -/
def GapAt (cs : List Cel) (pre : List (El (gapsF cs))) (x : El (gapsF cs)) : Prop := ∃ rest, gapsF cs = vals pre ++ x.1 :: rest
set_option maxRecDepth 100000 in
set_option maxHeartbeats 4000000 in
theorem gaps1_in (n : Nat) (hn : 1 ≤ n) (S : List Nat) (bs : Nat) (p : Option Addr) (cs : List Cel) (y : Nat) (J Jx : List (El (gapsF cs)) → World → Prop) (W : World) (hJ : OwnFrom W.heap.size J)
    (hY : ∀ pre x W1, J pre W1 → GapAt cs pre x → YieldAt Fence.wide (n - 1) Tryz.prog y (encs x) W1 fun e W' => KeepsFrom W.heap.size W1 W' ∧
      ((e = .returned (.bool true) ∧ J (pre ++ [x]) W' ∧ Kc S W1 W') ∨ (e = .returned (.bool false) ∧ Jx (pre ++ [x]) W')))
    (hB : Has W bs 29 [.pointer p]) (hC : Calls Tryz.prog 12 #[.pointer p] W fun e z => ∃ v, e = .returned v ∧ Sp.Own z v cs ∧ Sp.FreshV W v ∧ Kept [] W z)
    (hlen : cs.length ≤ 32768) (hS : ∀ b ∈ S, b < W.heap.size) (h0 : J [] W) :
    CallsIn Fence.wide n Tryz.prog 95 #[.func (.yield y) #[] #[], .pointer (some ⟨bs, 0, none⟩)] W fun e' W' => (∃ v, e' = .returned v) ∧
      ((∃ xs, vals xs = gapsF cs ∧ J xs W') ∨ (∃ pre, (∃ rest, gapsF cs = vals pre ++ rest) ∧ Jx pre W')) := by
  have c1 := hB.cell 0
  simp at c1
  have HC := Lib.hid hC
  have HS := Lib.hid hS
  have H0 := Lib.hid h0
  have HY := Lib.hid hY
  have HJ := Lib.hid hJ
  clear hC hS h0 hY hJ hB
  refine callsIn_of_wp Tryz.func95 rfl trivial ?_ rfl
  simp only [Tryz.ntmps95, List.size_toArray, List.length_cons, List.length_nil, Nat.reduceAdd, Nat.reduceSub, Array.replicate_succ, Array.replicate_zero, List.push_toArray, List.append_toArray, List.nil_append, List.cons_append]
  gi_wp2_with (fail)
  refine ⟨trivial, (callsIn_wide.2 HC.out).mono ?_⟩
  rintro e z ⟨v, rfl, hO, hV, hk⟩
  obtain ⟨A, c, rfl, _⟩ := Sp.back_own (Kept.refl [] z) hO
  have HSn : Hid (∀ X, Kc S z X → Sp.Seen X A cs) := Lib.hid fun X k => (own_kc hO k fun b hb e => by
    have h2 := HS.out b hb
    rcases hV with h | ⟨b', h, h3⟩
    · rw [h] at e; cases e
    · rw [h] at e
      injection e with e
      omega).seen
  have H1 : Hid (J [] z) := Lib.hid (HJ.out [] W z none H0.out (grownBy_of hk) (fun r e => by cases e))
  have HJz : Hid (∀ pre X Y, J pre X → Kept [] X Y → J pre Y) := Lib.hid fun pre X Y h k => HJ.out pre X Y none h (grownBy_of k) (fun r e => by cases e)
  clear hO hV hk HC HS H0 HJ c1
  gi_wp2_with (fail)
  gi_loopw [8] (fun t wr => ∃ i : Nat, t = .int .i64 (i : Int) ∧ i ≤ cs.length ∧ Hid (∃ pre, vals pre = gapsF (cs.take i) ∧ J pre wr ∧ Kc S z wr)) (fun t _ => cs.length - (intOf t).toNat)
  case atStart => exact ⟨0, rfl, Nat.zero_le _, Lib.hid ⟨[], rfl, H1.out, Kc.refl _ _⟩⟩
  case round =>
    clear H1
    obtain ⟨i, rfl, hi, hr⟩ := hrel
    obtain ⟨pre, hpr, hJp, hkp⟩ := hr.out
    by_cases hlt : i < cs.length
    · obtain ⟨gr, ro, rfl, _, x0, x1, x2, x3, x4⟩ := (HSn.out _ hkp).at i hlt _ rfl
      have htk := gaps_take hlt
      have hgm := gap_mem hlt
      have hct := gaps_cut cs (i + 1)
      generalize cs.getD i Cel.zero = x at htk hgm x0 x1 x2 x3 x4
      obtain ⟨xa, ⟨xt, xy, xl, xz⟩⟩ := x
      simp only at htk hgm x0 x1 x2 x3 x4
      have hwa : Kept [] wr (wr.alloc (.cells #[.int .i64 xa, .int .u8 xt, .int .i64 xy, .int .i64 xl, .int .i64 xz] 51)) := (Kept.refl [] wr).alloc _
      have hXa := Has.new wr 51 [.int .i64 xa, .int .u8 xt, .int .i64 xy, .int .i64 xl, .int .i64 xz]
      obtain ⟨d0, d1, d2, d3, d4⟩ := cells5 hXa
      have HJp := Lib.hid (HJz.out _ _ _ hJp hwa)
      have Hkp := Lib.hid (hkp.trans (Kc.keep0 hwa))
      by_cases ht : xt = 1
      · subst ht
        rw [if_pos rfl] at htk
        have HN : Hid (∃ pre, vals pre = gapsF (cs.take (i + 1)) ∧ J pre (wr.alloc (.cells #[.int .i64 xa, .int .u8 1, .int .i64 xy, .int .i64 xl, .int .i64 xz] 51)) ∧ Kc S z (wr.alloc (.cells #[.int .i64 xa, .int .u8 1, .int .i64 xy, .int .i64 xl, .int .i64 xz] 51))) := Lib.hid ⟨pre, by rw [hpr, htk], HJp.out, Hkp.out⟩
        clear hr hpr hJp hkp htk hgm hct hwa hXa HJp Hkp
        gi_wp2_with (fail)
        refine ⟨(fun f h => by cases h), ?_⟩
        gi_wp2_with (fail)
        go_roundw
        case rel => exact ⟨i + 1, by go_num, by omega, HN⟩
        case measure => simp [intOf] <;> omega
      · rw [if_neg ht] at htk
        have hmem := hgm ht
        have hnext : vals (pre ++ [⟨_, hmem⟩]) = gapsF (cs.take (i + 1)) := by rw [vals_snoc, hpr, htk]
        have hat : GapAt cs pre ⟨_, hmem⟩ := ⟨gapsF (cs.drop (i + 1)), by
          have h := hct
          rw [htk, List.append_assoc, ← hpr] at h
          exact h⟩
        have Hrest : Hid (∃ rest, gapsF cs = vals (pre ++ [⟨_, hmem⟩]) ++ rest) := Lib.hid ⟨gapsF (cs.drop (i + 1)), by rw [hnext]; exact hct⟩
        have Hnext := Lib.hid hnext
        have Hyy := Lib.hid (HY.out pre ⟨_, hmem⟩ _ HJp.out hat)
        have hne : (xt == 1) = false := by simpa using ht
        clear hr hpr hJp hkp htk hgm hct hwa hXa HJp hnext hat
        obtain ⟨fn, tmps, assign, body, hy, hR⟩ := Hyy.out
        dsimp only [encs] at hy
        clear Hyy
        gi_wp2_with (fail)
        first
          | refine hR.mono ?_
          | (rw [hy, Oper.uponIn_round]; refine ⟨fun h => by cases h, hR.mono ?_⟩)
        rintro e3 W3 ⟨_, (⟨rfl, hJ3, hkp3⟩ | ⟨rfl, hJx⟩)⟩
        · have HN : Hid (∃ pre, vals pre = gapsF (cs.take (i + 1)) ∧ J pre W3 ∧ Kc S z W3) := Lib.hid ⟨_, Hnext.out, hJ3, Hkp.out.trans hkp3⟩
          clear hJ3 hkp3 hy hR Hnext Hrest Hkp d0 d1 d2 d3 d4 x0 x1 x2 x3 x4
          gi_wp2_with (fail)
          go_roundw
          case rel => exact ⟨i + 1, by go_num, by omega, HN⟩
          case measure => simp [intOf] <;> omega
        · clear hy hR
          gi_wp2_with (fail)
          refine bodyPost_ret (results_none rfl _ _ _) rfl ?_
          exact ⟨⟨_, rfl⟩, .inr ⟨_, Hrest.out, hJx⟩⟩
    · obtain rfl : i = cs.length := by omega
      rw [List.take_length] at hpr
      have Hpr := Lib.hid hpr
      have HJp := Lib.hid hJp
      clear hr hpr hJp hkp
      gi_wp2_with (fail)
      go_end0
      exact ⟨⟨_, rfl⟩, .inl ⟨pre, Hpr.out, HJp.out⟩⟩
theorem gaps_seq (n : Nat) (hn : 1 ≤ n) (S : List Nat) (bs : Nat) (p : Option Addr) (cs : List Cel) (w : World) (hB : Has w bs 29 [.pointer p])
    (hC : ∀ x, Kept [] w x → Calls Tryz.prog 12 #[.pointer p] x fun e z => ∃ v, e = .returned v ∧ Sp.Own z v cs ∧ Sp.FreshV x v ∧ Kept [] x z)
    (hlen : cs.length ≤ 32768) (hS : ∀ b ∈ S, b < w.heap.size) :
    Rk.SeqR Fence.wide n Tryz.prog 95 #[.pointer (some ⟨bs, 0, none⟩)] (encs (cs := gapsF cs)) (Kc S) (fun xs => vals xs = gapsF cs) (fun pre => ∃ rest, gapsF cs = vals pre ++ rest) (GapAt cs) w :=
  fun y J Jx W hW hJ _ hY h0 => gaps1_in n hn S bs p cs y J Jx W hJ hY (hB.keep0 (Kept.ofBelow hW [])) (hC _ (Kept.ofBelow hW [])) hlen (fun b hb => Nat.lt_of_lt_of_le (hS b hb) hW.size) h0
/-- gaps hands back that function; it has the space in a box. -/
theorem gaps_ok (p : Option Addr) (w : World) : Calls Tryz.prog 59 #[.pointer p] w fun e y => e = .returned (.func (.func 95) #[] #[.pointer (some ⟨w.heap.size, 0, none⟩)]) ∧ y = w.alloc (.cells #[.pointer p] 29) := by
  go_enter Tryz.func59, Tryz.ntmps59
  go_wp2_with fail
  go_ret
  exact ⟨rfl, rfl⟩
end Go.Proofs.YtoagghileebokaaGreatDoor.Ft
