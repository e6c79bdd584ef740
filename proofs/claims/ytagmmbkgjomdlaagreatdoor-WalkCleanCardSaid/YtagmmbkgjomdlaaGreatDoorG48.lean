/-
  Several texts in one: WkBytes, WkTwin.
-/
import Derived.Test.YtagmmbkgjomdlaaGreatDoorG38
import Derived.Test.YtagmmbkgjomdlaaGreatDoorG30
import Derived.Test.YtagmmbkgjomdlaaGreatDoorG22
import Derived.Test.YtagmmbkgjomdlaaGreatDoorG36
import Derived.Deep.RegionWith
import Derived.Test.YtagmmbkgjomdlaaGreatDoorG47
import Derived.Test.YtagmmbkgjomdlaaGreatDoorG46
import Derived.Test.YtagmmbkgjomdlaaGreatDoorG35
/-
  append of a row of bytes that came in, at a step of a region that draws its order (the step's guard is met); two rows of cells that are unlike; how a row of bytes reads.
-/
namespace Go.Proofs.YtagmmbkgjomdlaaGreatDoor.By
open Go.RowKit Go.Proofs.YtagmmbkgjomdlaaGreatDoor.Ar
theorem step_append_seen {w : World} {ops : Array Oper} {o : Oper} {a : Act} {K : Act → World → Prop} {Q : Exit → Act → World → Prop} {E : Prop} (hw : Region.wanted o (yielded ops a.tmps) = true) (s x : Operand)
    (ho : o.op = .call { callee := .builtin .append, args := #[s, x], argTypes := #[24, 24] })
    (v : Value) (l : List Int) (hs : a.eval s = v) (hown : By.Own w v l) (A : Option Addr) (m c : Nat) (news : List Int) (hx : a.eval x = .slice A m c) (hm : m = news.length) (hnil : A = none → c = 0) (hseen : By.Seen w A news)
    (hb : l.length + news.length ≤ 1073741824)
    (h : ∀ v' w', By.Own w' v' (l ++ news) → w.grownBy w' v.ownBlock → (v'.ownBlock = v.ownBlock ∨ v'.ownBlock = some w.heap.size) → K (a.put o.dst v') w') :
    if Region.wanted o (yielded ops a.tmps) = true then Oper.wp Tryz.prog o a w K Q else E := by
  rw [if_pos hw]
  subst hm
  obtain ⟨i0, hi, hz0, hz1, hz2⟩ := info_parts info_u8
  cases A with
  | none =>
    have hn : news = [] := by
      cases news with
      | nil => rfl
      | cons y ys =>
        obtain ⟨g, f, e, _⟩ := hseen (by simp)
        cases e
    subst hn
    obtain rfl := hnil rfl
    have hr := run_append_owned_none (P := Tryz.prog) (w := w) 0 24 o.type 5 i0 1 Tryz.underlying24 hi v l.length (ints l) hown
    unfold Oper.wp execOp
    simp only [ho, resolve, invoke, builtin, Sem.run_bind, Sem.run_pure, Result.andThen_ok, List.map_toArray, List.map_cons, List.map_nil, hs, hx, List.length_nil, hr]
    exact h v w (by rw [List.append_nil]; exact hown) (World.grownBy.refl w _) (.inl rfl)
  | some ad =>
    obtain ⟨v', w', hr, h2, h3, h4, h5⟩ := run_append_own_at (P := Tryz.prog) w 0 24 o.type 5 i0 (.int .u8 0) 1 1 Tryz.underlying24 hi hz0 hz1 hz2 rfl (by decide) v l.length (ints l) hown ad news.length c (ints news) (by rw [ints_length, Nat.mul_one]) (fun j u hu => by
      by_cases hne : news = []
      · subst hne; cases hu
      · obtain ⟨g, f, e, _, hc⟩ := hseen hne
        obtain rfl := Option.some.inj e
        rw [add_at]
        exact hc j u hu) (ints_one news) (by unfold maxLen; omega) (by omega) (Nat.zero_le _)
    unfold Oper.wp execOp
    simp only [ho, resolve, invoke, builtin, Sem.run_bind, Sem.run_pure, Result.andThen_ok, List.map_toArray, List.map_cons, List.map_nil, hs, hx, hr]
    refine h v' w' ?_ h3 h5
    unfold Own ints at *
    rw [List.length_append, List.map_append]
    exact h2
end Go.Proofs.YtagmmbkgjomdlaaGreatDoor.By
namespace Go.Proofs.YtagmmbkgjomdlaaGreatDoor.Wk
open Go.RowKit Go.Proofs.YtagmmbkgjomdlaaGreatDoor.Ar Go.Proofs.YtagmmbkgjomdlaaGreatDoor.Sp Go.ChangeShapes Go.WideShapes
set_option linter.unusedVariables false
section
variable {w : World}
set_option maxRecDepth 100000 in
set_option maxHeartbeats 2000000 in
/-- Two rows of cells that are unlike. -/
theorem unlike_ok {A B : Option Addr} {cap cap2 : Nat} (L M : List Cel) (hA : Sp.Seen w A L) (hB : Sp.Seen w B M) (hlen : L.length ≤ 1000000) (hlen2 : M.length ≤ 1000000) (hne : L ≠ M) :
    Calls Tryz.prog 11 #[.slice A L.length cap, .slice B M.length cap2] w fun e w' => e = .returned (.bool false) ∧ Kept [] w w' := by
  have HA := Lib.hid hA
  have HB := Lib.hid hB
  have HNe := Lib.hid hne
  have K0 : Hid (L.take 0 = M.take 0 ∧ Kept [] w w) := Lib.hid ⟨rfl, Kept.refl _ _⟩
  clear hA hB hne
  by_cases hl : L.length = M.length
  · go_enter Tryz.func11, Tryz.ntmps11
    go_wp2_with fail
    go_loopw [5] (fun t wr => ∃ j : Nat, t = .int .i64 (j : Int) ∧ j ≤ L.length ∧ Hid (L.take j = M.take j ∧ Kept [] w wr)) (fun t _ => L.length - (intOf t).toNat)
    case atStart => exact ⟨0, rfl, Nat.zero_le _, K0⟩
    case round =>
      obtain ⟨j, rfl, hj, hr⟩ := hrel
      clear K0
      by_cases hlt : j < L.length
      · have hlt2 : j < M.length := by omega
        obtain ⟨g, o, rfl, hg, c0, c1, c2, c3, c4⟩ := (HA.out.keep0 hr.out.2).at j hlt _ rfl
        obtain ⟨g2, o2, rfl, hg2, d0, d1, d2, d3, d4⟩ := (HB.out.keep0 hr.out.2).at j hlt2 _ rfl
        have t1 := cel_take hlt
        have t2 := cel_take hlt2
        rw [hr.out.1] at t1
        have hk := hr.out.2
        generalize L.getD j Cel.zero = x at *
        generalize M.getD j Cel.zero = z at *
        have hxz := eqC_iff x z
        have HEq : Hid (x = z → L.take (j + 1) = M.take (j + 1)) := Lib.hid fun e => by rw [t1, t2, e]
        obtain ⟨xa, ⟨xt, xy, xl, xz⟩⟩ := x
        obtain ⟨za, ⟨zt, zy, zl, zz⟩⟩ := z
        simp only at c0 c1 c2 c3 c4 d0 d1 d2 d3 d4 hxz
        have HK := Lib.hid hk
        have hng := no_guard
        clear hr t1 t2 hk
        cases hq : eqC xa xt xy xl xz za zt zy zl zz with
        | false =>
          have hso := fun y => run_other y xa xt xy xl xz za zt zy zl zz
          simp only [hq, Bool.not_false] at hso
          clear hxz HEq hq
          go_wp2_with fail
          go_quiet (fail)
          have HK2 := Lib.hid (HK.out.drewN nq)
          clear c0 c1 c2 c3 c4 d0 d1 d2 d3 d4 hso hng HK
          go_wp2_with fail
          go_ret
          exact ⟨rfl, HK2.out⟩
        | true =>
          have hso := fun y => run_other y xa xt xy xl xz za zt zy zl zz
          simp only [hq, Bool.not_true] at hso
          have HT := Lib.hid (HEq.out (hxz.1 hq))
          clear hxz HEq hq
          go_wp2_with fail
          go_quiet (fail)
          have HK2 := Lib.hid (And.intro HT.out (HK.out.drewN nq))
          clear c0 c1 c2 c3 c4 d0 d1 d2 d3 d4 hso hng HK HT
          go_wp2_with fail
          go_roundw
          case rel => exact ⟨j + 1, by go_num, by omega, HK2⟩
          case measure => simp [intOf] <;> omega
      · exfalso
        have h := hr.out.1
        rw [List.take_of_length_le (by omega), List.take_of_length_le (by omega)] at h
        exact HNe.out h
  · have hb : ((L.length : Int) != (M.length : Int)) = true := by simp; omega
    go_enter Tryz.func11, Tryz.ntmps11
    go_wp2_with fail
    go_ret
    exact ⟨rfl, K0.out.2⟩
end
section
variable {H : Type} {enc : TypeId × Value → H} {w : World} {base : Nat} {spare : Nat → Bool} {held : Bool} {fuel : Nat}
theorem u16_of_wf {n : Int} (h : (Lit.int .u16 n).wf = true) : 0 ≤ n ∧ n < 65536 := by
  simp [Lit.wf, IntKind.min, IntKind.max, IntKind.signed, IntKind.bits] at h
  omega
theorem bytes_read {A : Option Addr} {len cap : Nat} {x : DataW H × List MemPlace} (h : DataW.trod enc Tryz.prog w base spare held fuel 24 (Value.cells (.slice A len cap)).toList = some x) :
    ∃ l : List Int, l.length = len ∧ len ≤ cap ∧ cap ≤ maxLen ∧ By.Seen w A l ∧ (A = none → cap = 0) := by
  rcases open_ints Tryz.underlying24 Tryz.underlying5 (by kernel_rfl) h with ⟨hcs, _⟩ | ⟨a, l, c, zs, hcs, _, hl, hm, hz, hx, hcell, hwz⟩
  · simp [Value.cells] at hcs
    obtain ⟨rfl, rfl, rfl⟩ := hcs
    exact ⟨[], rfl, Nat.le_refl _, by unfold maxLen; omega, fun hne => absurd rfl hne, fun _ => rfl⟩
  · simp [Value.cells] at hcs
    obtain ⟨rfl, rfl, rfl⟩ := hcs
    have hzl : len ≤ zs.length := by rw [hz]; split <;> omega
    refine ⟨zs.take len, by rw [List.length_take]; omega, hl, hm, fun hne => ?_, (fun e => by cases e)⟩
    have h0 : 0 < len := by
      rcases Nat.eq_zero_or_pos len with h | h
      · subst h; exact absurd (by simp) hne
      · exact h
    have hc := hcell 0 (by omega)
    obtain ⟨g, f, s⟩ := a
    have hs : s = none := by simpa [Addr.add] using World.cell?_spot hc
    subst hs
    refine ⟨g, f, rfl, by simpa [Addr.add] using World.block_lt_of_cell? w _ hc, fun j v hv => ?_⟩
    unfold By.ints at hv
    rw [List.getElem?_map, List.getElem?_take] at hv
    by_cases hj : j < len
    · rw [if_pos hj, List.getElem?_eq_getElem (by omega)] at hv
      have hcj := hcell j (by omega)
      rw [add_at] at hcj
      rw [hcj]
      simpa [List.getD, List.getElem?_eq_getElem (show j < zs.length by omega)] using hv
    · rw [if_neg hj] at hv
      cases hv
end
end Go.Proofs.YtagmmbkgjomdlaaGreatDoor.Wk

/-
  What the laws of layer 10 start with.
-/
namespace Go.Proofs.YtagmmbkgjomdlaaGreatDoor.Wk
open Go.RowKit Go.Proofs.YtagmmbkgjomdlaaGreatDoor.Ar
open Go.Proofs.YtagmmbkgjomdlaaGreatDoor.Sp hiding Own own_from own_put back_own Seen own_cells seen_one
open Go.Proofs.YtagmmbkgjomdlaaGreatDoor.Sh (hdH ofE ofT ofS atG)
open Go.Proofs.YtagmmbkgjomdlaaGreatDoor.Hd (Hd Fields)
open Go.Proofs.YtagmmbkgjomdlaaGreatDoor.Tb (Ty Tab newF)
open Go.Proofs.YtagmmbkgjomdlaaGreatDoor.Bt (Bv hasV layB)
open Go.Proofs.YtagmmbkgjomdlaaGreatDoor.Wd (Table)
set_option linter.unusedVariables false

theorem _root_.Go.Proofs.YtagmmbkgjomdlaaGreatDoor.Sp.Twin.start {w x : World} {s : Ids} {r : Nat} {B : Option Addr} {d : Nat} {l : List Ty} (h : Sp.Twin w x s r B d l) : Kept [] w x := let ⟨_, _, _, h⟩ := h; h.mine.kept
end Go.Proofs.YtagmmbkgjomdlaaGreatDoor.Wk
