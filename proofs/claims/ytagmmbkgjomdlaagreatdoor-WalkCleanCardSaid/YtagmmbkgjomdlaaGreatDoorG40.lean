/-
  Several texts in one: WkStepIn, WkMid.
-/
import Derived.Test.YtagmmbkgjomdlaaGreatDoorG01
import Derived.Shelf.RegionOpen
import Derived.Maps.OwnIn
import Derived.Test.YtagmmbkgjomdlaaGreatDoorG39
import Derived.Test.YtagmmbkgjomdlaaGreatDoorG44
import Derived.Sort.CutIn
/-
  Append of a row at a step of a region that draws its order, inside a round.
-/
namespace Go.Proofs.YtagmmbkgjomdlaaGreatDoor.Wk
open Go.RowKit Go.Proofs.YtagmmbkgjomdlaaGreatDoor.Ar
set_option linter.unusedVariables false

theorem step_append_in {F : Fence} {nF : Nat} {w : World} {o : Oper} {a : Act} {H : Act → World → Prop} {Q : Exit → Act → World → Prop} (K : RowK) (s x : Operand)
    (ho : o.op = .call { callee := .builtin .append, args := #[s, x], argTypes := #[K.t, K.t] })
    (v : Value) (l : List K.α) (hs : a.eval s = v) (hown : Own K w v l) (A : Option Addr) (m c : Nat) (news : List K.α) (hx : a.eval x = .slice A m c) (hm : m = news.length) (hnil : A = none → c = 0) (hseen : Seen K w A news)
    (hb : l.length + news.length ≤ 1073741824)
    (h : ∀ v' w', Own K w' v' (l ++ news) → w.grownBy w' v.ownBlock → (v'.ownBlock = v.ownBlock ∨ v'.ownBlock = some w.heap.size) → H (a.put o.dst v') w') :
    Oper.wpIn F nF Tryz.prog o a w H Q := by
  subst hm
  have hsm := K.small
  obtain ⟨i0, hi, hz0, hz1, hz2⟩ := info_of K
  unfold Oper.wpIn
  refine ⟨by simp [Oper.about, ho, resolve, Target.leads, Sem.run_pure], ?_⟩
  rw [Oper.semAt_plain F _ _ (by rw [ho]; intro c hc'; cases hc')]
  cases A with
  | none =>
    have hn : news = [] := by
      cases news with
      | nil => rfl
      | cons y ys =>
        obtain ⟨g, f, e, _⟩ := hseen (by simp)
        cases e
    subst hn
    obtain rfl := hnil rfl
    have hr := run_append_owned_none (P := Tryz.prog) (w := w) 0 K.t o.type K.e i0 K.k K.und hi v l.length (cs K l) hown
    unfold execOp
    simp only [ho, resolve, invoke, builtin, Sem.run_bind, Sem.run_pure, Result.andThen_ok, List.map_toArray, List.map_cons, List.map_nil, hs, hx, List.length_nil, hr]
    exact h v w (by rw [List.append_nil]; exact hown) (World.grownBy.refl w _) (.inl rfl)
  | some ad =>
    obtain ⟨v', w', hr, h2, h3, h4, h5⟩ := run_append_own_at (P := Tryz.prog) w 0 K.t o.type K.e i0 K.z K.k K.bytes K.und hi hz0 hz1 hz2 K.zs K.kpos v l.length (cs K l) hown ad news.length c (cs K news) (cs_length K news) (fun j u hu => by
      by_cases hne : news = []
      · subst hne; cases hu
      · obtain ⟨g, f, e, _, hc⟩ := hseen hne
        obtain rfl := Option.some.inj e
        rw [add_at]
        exact hc j u hu) (cs_one K news) (by unfold maxLen; omega) (Nat.le_trans (Nat.mul_le_mul hb hsm) (by decide)) (Nat.zero_le _)
    unfold execOp
    simp only [ho, resolve, invoke, builtin, Sem.run_bind, Sem.run_pure, Result.andThen_ok, List.map_toArray, List.map_cons, List.map_nil, hs, hx, hr]
    refine h v' w' ?_ h3 h5
    unfold Own
    rw [List.length_append, cs_append]
    exact h2
theorem list_append_in {F : Fence} {nF : Nat} {w : World} {ops : Array Oper} {rest : List Oper} {o : Oper} {a : Act} {Q : Exit → Act → World → Prop} (K : RowK) (hgd : o.guard = none) (s x : Operand)
    (ho : o.op = .call { callee := .builtin .append, args := #[s, x], argTypes := #[K.t, K.t] })
    (v : Value) (l : List K.α) (hs : a.eval s = v) (hown : Own K w v l) (A : Option Addr) (m c : Nat) (news : List K.α) (hx : a.eval x = .slice A m c) (hm : m = news.length) (hnil : A = none → c = 0) (hseen : Seen K w A news)
    (hb : l.length + news.length ≤ 1073741824)
    (h : ∀ v' w', Own K w' v' (l ++ news) → w.grownBy w' v.ownBlock → (v'.ownBlock = v.ownBlock ∨ v'.ownBlock = some w.heap.size) → wpListIn F nF Tryz.prog ops Q rest (a.put o.dst v') w') : wpListIn F nF Tryz.prog ops Q (o :: rest) a w :=
  wpListIn_plain hgd fun K' hK' => step_append_in K s x ho v l hs hown A m c news hx hm hnil hseen hb fun v' w' h1 h2 h3 => hK' _ _ (h v' w' h1 h2 h3)
end Go.Proofs.YtagmmbkgjomdlaaGreatDoor.Wk

/-
  Check's rounds: what stands between two stores; all faults told.
-/
namespace Go.Proofs.YtagmmbkgjomdlaaGreatDoor.Wk
open Go.RowKit Go.Proofs.YtagmmbkgjomdlaaGreatDoor.Ar Go.Proofs.YtagmmbkgjomdlaaGreatDoor.Lk Go.Shelf Go.Sort
open Go.Proofs.YtagmmbkgjomdlaaGreatDoor.Sp hiding Own own_from own_put back_own Seen own_cells seen_one
open Go.Proofs.YtagmmbkgjomdlaaGreatDoor.Hd (Hd Fields)
open Go.Proofs.YtagmmbkgjomdlaaGreatDoor.Tb (Ty Tab)
set_option linter.unusedVariables false

/-- Between two stores of a round: the cell's box, the starts' box, the faults, the objects, the end. -/
structure Mid (w : World) (B0 : Nat) (W x : World) (Bx : Nat) (X : List Value) (p : Nat) (v u : Value) (fs : List Tri) (os : List Cel) (en : Int) : Prop where
  hx : Has x Bx 78 X
  h5 : Has x w.heap.size 66 [.pointer (some ⟨p, 0, none⟩)]
  h8 : Has x (w.heap.size + 1) 58 [v]
  o8 : Own Flt x v fs
  f8 : Sp.FreshV w v
  h9 : Has x (w.heap.size + 1 + 1) 36 [u]
  o9 : Sp.Own x u os
  f9 : Sp.FreshV w u
  nx : u.ownBlock ≠ some Bx
  h10 : Has x (w.heap.size + 1 + 1 + 1) 3 [.int .i64 en]
  k : Kept [] w x
  kf : KeepsFrom B0 W x
  kp : Kpn [w.heap.size + 1, w.heap.size + 1 + 1, w.heap.size + 1 + 1 + 1] W x
namespace Mid
variable {w : World} {B0 : Nat} {W x y z : World} {Bx : Nat} {X : List Value} {p : Nat} {v u v' : Value} {fs fs' : List Tri} {os os' : List Cel} {en : Int}
theorem keep0 (h : Mid w B0 W x Bx X p v u fs os en) (k : Kept [] x y) : Mid w B0 W y Bx X p v u fs os en :=
  ⟨h.hx.keep0 k, h.h5.keep0 k, h.h8.keep0 k, h.o8.keep0 k, h.f8, h.h9.keep0 k, h.o9.keep0 k, h.f9, h.nx, h.h10.keep0 k, h.k.trans k, h.kf.trans (keepsFrom_of k (by simp)), h.kp.trans (Kpn.ofKept k (fun b hb => by
    simp only [List.mem_cons, List.not_mem_nil, or_false] at hb
    rcases hb with rfl | rfl | rfl
    · exact h.h8.lt
    · exact h.h9.lt
    · exact h.h10.lt))⟩
theorem fault (h : Mid w B0 W x Bx X p v u fs os en) (hG : x.grownBy y v.ownBlock) (hO : Own Flt y v' fs') (hV : v'.ownBlock = v.ownBlock ∨ v'.ownBlock = some x.heap.size) : Mid w B0 W (y.setCell ⟨w.heap.size + 1, 0, none⟩ v') Bx X p v' u fs' os en := by
  have hk := Sp.kept_grown hG
  have hnv : ∀ {i : Nat} {t : TypeId} {cs : List Value}, Has x i t cs → t ≠ 69 → i ∉ v.ownBlock.toList := fun h1 ht hm => by
    obtain ⟨ds, hd⟩ := own_cells (K := Flt) h.o8 _ hm
    exact Has.block_type h1 hd ht rfl
  have hKS : Kept [w.heap.size + 1] y (y.setCell ⟨w.heap.size + 1, 0, none⟩ v') := (Kept.refl _ y).setCell _ _ (.inl (by simp))
  have hKA : Kept ((w.heap.size + 1) :: v.ownBlock.toList) x (y.setCell ⟨w.heap.size + 1, 0, none⟩ v') := (hk.mono fun b hb => List.mem_cons_of_mem _ hb).trans (hKS.mono (by simp))
  have hb8 : Has y (w.heap.size + 1) 58 [v] := h.h8.kept hk (hnv h.h8 (by decide))
  have hbx : Has (y.setCell ⟨w.heap.size + 1, 0, none⟩ v') (w.heap.size + 1) 58 [v'] := hb8.put 0 _
  have mv : ∀ {i : Nat} {t : TypeId} {cs : List Value}, Has x i t cs → t ≠ 69 → i ≠ w.heap.size + 1 → Has (y.setCell ⟨w.heap.size + 1, 0, none⟩ v') i t cs := fun h1 ht hn => (h1.kept hk (hnv h1 ht)).kept hKS (by simpa using hn)
  have hy1 : Kept [] w y := own_grown h.k h.f8 hG
  refine ⟨mv h.hx (by decide) (Has.block_type h.hx h.h8 (by decide)), mv h.h5 (by decide) (by omega), hbx, ?_, own_fresh h.k h.f8 hV, mv h.h9 (by decide) (by omega), ?_, h.f9, h.nx, mv h.h10 (by decide) (by omega), hy1.forget hKS (by simp), h.kf.trans (keepsFrom_of hKA ?_), h.kp.trans (Kpn.box (by simp) h.h8 hKA hbx ?_ ?_)⟩
  · exact hO.kept hKS fun g hg e => by
      obtain rfl := List.mem_singleton.1 hg
      obtain ⟨cs, hcs⟩ := own_cells (K := Flt) hO (w.heap.size + 1) (by rw [e]; simp)
      exact Has.block_type hb8 hcs (by decide) rfl
  · refine (h.o9.kept hk fun g hg e => ?_).kept hKS fun g hg e => ?_
    · obtain ⟨ds, hd⟩ := own_cells (K := Flt) h.o8 g hg
      obtain ⟨cs, hcs⟩ := Sp.own_cells h.o9 g (by rw [e]; simp)
      exact Has.block_type hd hcs (by decide) rfl
    · obtain rfl := List.mem_singleton.1 hg
      obtain ⟨cs, hcs⟩ := Sp.own_cells h.o9 (w.heap.size + 1) (by rw [e]; simp)
      exact Has.block_type h.h8 hcs (by decide) rfl
  · intro b hb
    rcases List.mem_cons.1 hb with rfl | hb
    · exact ⟨_, _, h.h8⟩
    · exact ⟨_, own_cells (K := Flt) h.o8 b hb⟩
  · rcases hV with h1 | h1
    · exact .inl h1
    · exact .inr ⟨_, h1, Nat.le_refl _, Nat.lt_of_lt_of_le (hO.lt _ h1) hKS.more⟩
  · intro c hc hn
    simp only [List.mem_cons, List.not_mem_nil, or_false] at hc
    rcases hc with rfl | rfl | rfl
    · exact absurd rfl hn
    · exact ⟨h.h9.lt, hnv h.h9 (by decide)⟩
    · exact ⟨h.h10.lt, hnv h.h10 (by decide)⟩
theorem object (h : Mid w B0 W x Bx X p v u fs os en) (hG : x.grownBy y u.ownBlock) (hO : Sp.Own y v' os') (hV : v'.ownBlock = u.ownBlock ∨ v'.ownBlock = some x.heap.size) : Mid w B0 W (y.setCell ⟨w.heap.size + 1 + 1, 0, none⟩ v') Bx X p v v' fs os' en := by
  have hk := Sp.kept_grown hG
  have hnv : ∀ {i : Nat} {t : TypeId} {cs : List Value}, Has x i t cs → t ≠ 78 → i ∉ u.ownBlock.toList := fun h1 ht hm => by
    obtain ⟨ds, hd⟩ := Sp.own_cells h.o9 _ hm
    exact Has.block_type h1 hd ht rfl
  have hKS : Kept [w.heap.size + 1 + 1] y (y.setCell ⟨w.heap.size + 1 + 1, 0, none⟩ v') := (Kept.refl _ y).setCell _ _ (.inl (by simp))
  have hKA : Kept ((w.heap.size + 1 + 1) :: u.ownBlock.toList) x (y.setCell ⟨w.heap.size + 1 + 1, 0, none⟩ v') := (hk.mono fun b hb => List.mem_cons_of_mem _ hb).trans (hKS.mono (by simp))
  have hb9 : Has y (w.heap.size + 1 + 1) 36 [u] := h.h9.kept hk (hnv h.h9 (by decide))
  have hbx : Has (y.setCell ⟨w.heap.size + 1 + 1, 0, none⟩ v') (w.heap.size + 1 + 1) 36 [v'] := hb9.put 0 _
  have mv : ∀ {i : Nat} {t : TypeId} {cs : List Value}, Has x i t cs → t ≠ 78 → i ≠ w.heap.size + 1 + 1 → Has (y.setCell ⟨w.heap.size + 1 + 1, 0, none⟩ v') i t cs := fun h1 ht hn => (h1.kept hk (hnv h1 ht)).kept hKS (by simpa using hn)
  have hy1 : Kept [] w y := own_grown h.k h.f9 hG
  have hXn : Bx ∉ u.ownBlock.toList := by
    intro hm
    exact h.nx (by simpa using hm)
  refine ⟨(h.hx.kept hk hXn).kept hKS (by simpa using Has.block_type h.hx h.h9 (by decide)), mv h.h5 (by decide) (by omega), mv h.h8 (by decide) (by omega), ?_, h.f8, hbx, ?_, own_fresh h.k h.f9 hV, ?_, mv h.h10 (by decide) (by omega), hy1.forget hKS (by simp; omega), h.kf.trans (keepsFrom_of hKA ?_), h.kp.trans (Kpn.box (by simp) h.h9 hKA hbx ?_ ?_)⟩
  · refine (h.o8.kept hk fun g hg e => ?_).kept hKS fun g hg e => ?_
    · obtain ⟨ds, hd⟩ := Sp.own_cells h.o9 g hg
      obtain ⟨cs, hcs⟩ := own_cells (K := Flt) h.o8 g (by rw [e]; simp)
      exact Has.block_type hd hcs (by decide) rfl
    · obtain rfl := List.mem_singleton.1 hg
      obtain ⟨cs, hcs⟩ := own_cells (K := Flt) h.o8 (w.heap.size + 1 + 1) (by rw [e]; simp)
      exact Has.block_type h.h9 hcs (by decide) rfl
  · exact hO.kept hKS fun g hg e => by
      obtain rfl := List.mem_singleton.1 hg
      obtain ⟨cs, hcs⟩ := Sp.own_cells hO (w.heap.size + 1 + 1) (by rw [e]; simp)
      exact Has.block_type hb9 hcs (by decide) rfl
  · rcases hV with h1 | h1
    · rw [h1]; exact h.nx
    · rw [h1]
      intro e
      injection e with e
      have := h.hx.lt
      omega
  · intro b hb
    rcases List.mem_cons.1 hb with rfl | hb
    · exact ⟨_, _, h.h9⟩
    · exact ⟨_, Sp.own_cells h.o9 b hb⟩
  · rcases hV with h1 | h1
    · exact .inl h1
    · exact .inr ⟨_, h1, Nat.le_refl _, Nat.lt_of_lt_of_le (hO.lt _ h1) hKS.more⟩
  · intro c hc hn
    simp only [List.mem_cons, List.not_mem_nil, or_false] at hc
    rcases hc with rfl | rfl | rfl
    · exact ⟨h.h8.lt, hnv h.h8 (by decide)⟩
    · exact absurd rfl hn
    · exact ⟨h.h10.lt, hnv h.h10 (by decide)⟩
theorem last (h : Mid w B0 W x Bx X p v u fs os en) (e2 : Int) : Mid w B0 W (x.setCell ⟨w.heap.size + 1 + 1 + 1, 0, none⟩ (.int .i64 e2)) Bx X p v u fs os e2 := by
  have hKS : Kept [w.heap.size + 1 + 1 + 1] x (x.setCell ⟨w.heap.size + 1 + 1 + 1, 0, none⟩ (.int .i64 e2)) := (Kept.refl _ x).setCell _ _ (.inl (by simp))
  have hbx : Has (x.setCell ⟨w.heap.size + 1 + 1 + 1, 0, none⟩ (.int .i64 e2)) (w.heap.size + 1 + 1 + 1) 3 [.int .i64 e2] := h.h10.put 0 _
  refine ⟨h.hx.kept hKS (by simpa using Has.block_type h.hx h.h10 (by decide)), h.h5.kept hKS (by simp; omega), h.h8.kept hKS (by simp), ?_, h.f8, h.h9.kept hKS (by simp), ?_, h.f9, h.nx, hbx, h.k.forget hKS (by simp; omega), h.kf.trans (keepsFrom_of hKS fun b hb => by rw [List.mem_singleton.1 hb]; exact ⟨_, _, h.h10⟩), h.kp.trans (Kpn.box (by simp) h.h10 (hKS.mono (by simp)) hbx (.inl rfl) ?_)⟩
  · exact h.o8.kept hKS fun g hg e => by
      obtain rfl := List.mem_singleton.1 hg
      obtain ⟨cs, hcs⟩ := own_cells (K := Flt) h.o8 (w.heap.size + 1 + 1 + 1) (by rw [e]; simp)
      exact Has.block_type h.h10 hcs (by decide) rfl
  · exact h.o9.kept hKS fun g hg e => by
      obtain rfl := List.mem_singleton.1 hg
      obtain ⟨cs, hcs⟩ := Sp.own_cells h.o9 (w.heap.size + 1 + 1 + 1) (by rw [e]; simp)
      exact Has.block_type h.h10 hcs (by decide) rfl
  · intro c hc hn
    simp only [List.mem_cons, List.not_mem_nil, or_false] at hc
    rcases hc with rfl | rfl | rfl
    · exact ⟨h.h8.lt, by simp [Value.ownBlock]⟩
    · exact ⟨h.h9.lt, by simp [Value.ownBlock]⟩
    · exact absurd rfl hn
end Mid
end Go.Proofs.YtagmmbkgjomdlaaGreatDoor.Wk
