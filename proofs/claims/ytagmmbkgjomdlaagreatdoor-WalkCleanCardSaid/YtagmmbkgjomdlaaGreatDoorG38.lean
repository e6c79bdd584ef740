/-
  Several texts in one: ByRow, WkTags, WkRefIt, SpHeavy.
-/
import Derived.Test.YtagmmbkgjomdlaaGreatDoorProg
import Derived.Test.YtagmmbkgjomdlaaGreatDoorG01
import Derived.WalkKit
import Derived.Laws.MakeOwn
import Derived.Maps.AppendAt
import Derived.Laws.AppendOwnNone
import Derived.OwnWalk
import Derived.Deep.AppendLies
import Derived.Test.YtagmmbkgjomdlaaGreatDoorG19
import Derived.Test.YtagmmbkgjomdlaaGreatDoorG37
import Derived.Test.YtagmmbkgjomdlaaGreatDoorG41
import Derived.Test.YtagmmbkgjomdlaaGreatDoorG33
import Derived.Test.YtagmmbkgjomdlaaGreatDoorG09
/-
  Rows of bytes ([]byte): as cells of a block, as a slice that is seen, as one that was made by appends; make and append as laws.
-/
namespace Go.Proofs.YtagmmbkgjomdlaaGreatDoor.By
open Go.RowKit Go.Proofs.YtagmmbkgjomdlaaGreatDoor.Ar

/-- A list of numbers as cells. -/
def ints (ws : List Int) : List Value := ws.map (Value.int .u8)
theorem ints_length (ws : List Int) : (ints ws).length = ws.length := List.length_map _
theorem ints_get (ws : List Int) (i : Nat) (h : i < ws.length) : (ints ws)[i]? = some (.int .u8 (ws.getD i 0)) := by
  unfold ints
  rw [List.getElem?_map, List.getElem?_eq_getElem h]
  simp [List.getD, List.getElem?_eq_getElem h]
theorem ints_set (ws : List Int) (i : Nat) (v : Int) : (ints ws).set i (.int .u8 v) = ints (ws.set i v) := by
  unfold ints
  rw [List.map_set]
theorem ints_one (ws : List Int) : ∀ v ∈ ints ws, v.oneCell' = true := by
  intro v hv
  unfold ints at hv
  obtain ⟨x, _, rfl⟩ := List.mem_map.1 hv
  rfl
theorem ints_cut (ws : List Int) (f k j : Nat) (v : Value) (h : (ints ((ws.drop f).take k))[j]? = some v) : (ints ws)[f + j]? = some v := by
  unfold ints at *
  rw [List.getElem?_map, List.getElem?_take] at h
  split at h
  · rw [List.getElem?_drop] at h
    rw [List.getElem?_map]
    exact h
  · simp at h
theorem info_u8 : (Tryz.prog.info? 5).map (fun i => (i.zero, i.size, i.bytes)) = some (some (.int .u8 0), 1, 1) := by kernel_rfl
/-- A slice of numbers that reads as a list: an empty one has whatever address. -/
def Seen (w : World) (A : Option Addr) (l : List Int) : Prop := l ≠ [] → ∃ g f, A = some ⟨g, f, none⟩ ∧ g < w.heap.size ∧ ∀ j v, (ints l)[j]? = some v → w.cell? ⟨g, f + j, none⟩ = some v
theorem Seen.keep {w w' : World} {A : Option Addr} {l : List Int} (h : Seen w A l) (hk : ∀ g f, A = some ⟨g, f, none⟩ → g < w.heap.size → w'.heap[g]? = w.heap[g]?) (hs : w.heap.size ≤ w'.heap.size) : Seen w' A l := by
  intro hl
  obtain ⟨g, f, e, hg, hc⟩ := h hl
  exact ⟨g, f, e, by omega, fun j v hv => (World.cell?_of_block (w := w) (hk g f e hg)).trans (hc j v hv)⟩
theorem Seen.keep0 {w w' : World} {A : Option Addr} {l : List Int} (h : Seen w A l) (k : Kept [] w w') : Seen w' A l :=
  h.keep (fun g _ _ hg => k.old g hg (by simp)) k.more
theorem Seen.cells {w : World} {A : Option Addr} {l : List Int} (h : Seen w A l) (hl : l ≠ []) : ∃ g f, A = some ⟨g, f, none⟩ ∧ ∀ j, j < l.length → w.cell? ⟨g, f + j, none⟩ = some (.int .u8 (l.getD j 0)) := by
  obtain ⟨g, f, e, _, hc⟩ := h hl
  exact ⟨g, f, e, fun j hj => hc j _ (ints_get l j hj)⟩
/-- A word of a row that came in, read in a later world. -/
theorem Seen.later {w : World} {A : Option Addr} {l : List Int} (h : Seen w A l) (hl : l ≠ []) : ∃ g f, A = some ⟨g, f, none⟩ ∧ ∀ x, Kept [] w x → ∀ j, j < l.length → x.cell? ⟨g, f + j, none⟩ = some (.int .u8 (l.getD j 0)) := by
  obtain ⟨g, f, e, hg, hc⟩ := h hl
  exact ⟨g, f, e, fun x hx j hj => (World.cell?_of_block (w := w) (hx.old g hg (by simp))).trans (hc j _ (ints_get l j hj))⟩
theorem seen_sub {y : World} {g f : Nat} {l : List Int} (h : Seen y (some ⟨g, f, none⟩) l) (r k : Nat) : Seen y (some ⟨g, f + r, none⟩) ((l.drop r).take k) := by
  intro hne
  obtain ⟨g', f', e, hg, hc⟩ := h (fun h0 => hne (by rw [h0]; simp))
  injection e with e
  injection e with e1 e2
  subst e1 e2
  exact ⟨g, f + r, rfl, hg, fun j v hv => by rw [Nat.add_assoc]; exact hc (r + j) v (ints_cut l r k j v hv)⟩
theorem seen_take {y : World} {g : Nat} {l : List Int} (h : Seen y (some ⟨g, 0, none⟩) l) (k : Nat) : Seen y (some ⟨g, 0, none⟩) (l.take k) := by
  intro hne
  obtain ⟨g', f', e, hg, hc⟩ := h (fun h0 => hne (by rw [h0]; simp))
  refine ⟨g', f', e, hg, fun j v hv => hc j v ?_⟩
  unfold ints at *
  rw [List.map_take, List.getElem?_take] at hv
  split at hv
  · exact hv
  · cases hv
/-- What is left behind a cut of a row, at whatever address an empty rest has. -/
theorem seen_rest {y : World} {g : Nat} {l : List Int} (h : Seen y (some ⟨g, 0, none⟩) l) (r cap : Nat) (hr : r ≤ l.length) (hc : l.length ≤ cap) : Seen y (if cap = r then some ⟨g, 0, none⟩ else some ⟨g, r, none⟩) (l.drop r) := by
  by_cases e : cap = r
  · intro hne
    exact absurd (List.drop_eq_nil_of_le (by omega)) hne
  · rw [if_neg e]
    have hs := seen_sub h r (l.length - r)
    rw [Nat.zero_add, List.take_of_length_le (by rw [List.length_drop]; omega)] at hs
    exact hs
/-- A row of numbers of the call's own. -/
def Row (w : World) (g : Nat) (l : List Int) : Prop := Has w g 5 (ints l)
theorem Row.seen {w : World} {g : Nat} {l : List Int} (h : Row w g l) : Seen w (some ⟨g, 0, none⟩) l :=
  fun _ => ⟨g, 0, rfl, Has.lt h, fun j v hv => by rw [Has.cell h, Nat.zero_add]; exact hv⟩
/-- A slice value that was made by appends alone, with these numbers. -/
def Own (w : World) (v : Value) (l : List Int) : Prop := w.ownsRow 0 5 1 v l.length (ints l)
theorem Own.nil (w : World) : Own w (.slice none 0 0) [] := World.ownsRow_nil w 0 _ 1
/-- It is nil and empty, or lies at the head of a block. -/
theorem Own.form {w : World} {v : Value} {l : List Int} (h : Own w v l) : (v = .slice none 0 0 ∧ l = []) ∨ ∃ g cap, v = .slice (some ⟨g, 0, none⟩) l.length cap ∧ g < w.heap.size ∧ l.length ≤ cap ∧ cap ≤ maxLen := by
  rcases h.2 with ⟨rfl, h0⟩ | ⟨g, cap, cur, rfl, _, hg, hc, hm, _⟩
  · exact .inl ⟨rfl, List.eq_nil_of_length_eq_zero h0⟩
  · exact .inr ⟨g, cap, rfl, (Array.getElem?_eq_some_iff.1 hg).1, hc, hm⟩
theorem Own.cell {w : World} {g n cap : Nat} {l : List Int} (h : Own w (.slice (some ⟨g, 0, none⟩) n cap) l) : ∀ j v, (ints l)[j]? = some v → w.cell? ⟨g, j, none⟩ = some v := by
  intro j v hv
  rcases h.2 with ⟨h1, _⟩ | ⟨g', cap', cur, h1, _, hg, _, _, _, ht⟩
  · cases h1
  · injection h1 with h1 h2 h3
    injection h1 with h1
    injection h1 with h1
    subst h1
    rw [cell_of_row w g j cur _ (0, 0) hg, ← Array.getElem?_toList]
    rw [← ht, List.getElem?_take] at hv
    split at hv
    · exact hv
    · cases hv
theorem Own.seen {w : World} {g n cap : Nat} {l : List Int} (h : Own w (.slice (some ⟨g, 0, none⟩) n cap) l) (hg : g < w.heap.size) : Seen w (some ⟨g, 0, none⟩) l :=
  fun _ => ⟨g, 0, rfl, hg, fun j v hv => by rw [Nat.zero_add]; exact h.cell j v hv⟩
theorem Own.keep {w w' : World} {v : Value} {l : List Int} {row : Option Nat} (h : Own w v l) (hg : w.grownBy w' row) (hne : v.ownBlock = none ∨ v.ownBlock ≠ row) : Own w' v l := World.ownsRow.kept h hg hne
theorem Own.kept {w w' : World} {v : Value} {l : List Int} {S : List Nat} (h : Own w v l) (k : Kept S w w') (hS : ∀ g ∈ S, v.ownBlock ≠ some g) : Own w' v l := by
  refine ⟨h.1, ?_⟩
  rcases h.2 with hn | ⟨g, cap, cur, rfl, hb, hg, rest⟩
  · exact .inl hn
  · refine .inr ⟨g, cap, cur, rfl, hb, ?_, rest⟩
    rw [k.old g (Array.getElem?_eq_some_iff.1 hg).1 fun hs => hS g hs rfl]
    exact hg
theorem Own.keep0 {w w' : World} {v : Value} {l : List Int} (h : Own w v l) (k : Kept [] w w') : Own w' v l := h.kept k fun _ hi => by cases hi
/-- append, where what is appended is a row of numbers that is seen (nil, empty or not). -/
theorem append_numbers {w : World} {ops : Array Oper} {rest : List Oper} {o : Oper} {a : Act} {Q : Exit → Act → World → Prop} (hgd : o.guard = none) (s x : Operand)
    (ho : o.op = .call { callee := .builtin .append, args := #[s, x], argTypes := #[24, 24] })
    (v : Value) (l : List Int) (hs : a.eval s = v) (hown : Own w v l) (A : Option Addr) (m c : Nat) (news : List Int) (hx : a.eval x = .slice A m c) (hm : news.length = m) (hnil : A = none → c = 0) (hseen : Seen w A news)
    (hb : l.length + m ≤ 1073741824)
    (h : ∀ v' w', Own w' v' (l ++ news) → w.grownBy w' v.ownBlock → (v'.ownBlock = v.ownBlock ∨ v'.ownBlock = some w.heap.size) → wpList Tryz.prog ops Q rest (a.put o.dst v') w') : wpList Tryz.prog ops Q (o :: rest) a w := by
  obtain ⟨i0, hi, hz0, hz1, hz2⟩ := info_parts info_u8
  subst hm
  cases A with
  | none =>
    have hn : news = [] := by
      cases news with
      | nil => rfl
      | cons y ys =>
        obtain ⟨g, f, e, _⟩ := hseen (by simp)
        cases e
    subst hn
    obtain rfl := hnil rfl
    refine wpList_append_own_none hgd s x 24 ho 0 5 i0 1 Tryz.underlying24 hi v l.length (ints l) hs hown hx ?_
    exact h v w (by rw [List.append_nil]; exact hown) (World.grownBy.refl w _) (.inl rfl)
  | some ad =>
    refine wpList_append_own_at w hgd s x 24 ho 0 5 i0 (.int .u8 0) 1 1 Tryz.underlying24 hi hz0 hz1 hz2 rfl (by decide) v l.length (ints l) hs hown ad news.length c (ints news) hx (by rw [ints_length, Nat.mul_one]) ?_ (ints_one news) (by unfold maxLen; omega) (by omega) (Nat.zero_le _) ?_
    · intro j u hu
      by_cases hne : news = []
      · subst hne; cases hu
      · obtain ⟨g, f, e, _, hc⟩ := hseen hne
        obtain rfl := Option.some.inj e
        rw [add_at]
        exact hc j u hu
    · intro v' w' h1 h2 _ h4
      refine h v' w' ?_ h2 h4
      unfold Own ints at *
      rw [List.length_append, List.map_append]
      exact h1
theorem Own.block_type {w : World} {g n cap b : Nat} {l : List Int} {t : TypeId} {cs : List Value} (h : Own w (.slice (some ⟨g, 0, none⟩) n cap) l) (h' : Has w b t cs) (ht : t ≠ 5) : b ≠ g := by
  rintro rfl
  rcases h.2 with ⟨h1, _⟩ | ⟨g', cap', cur, h1, _, hg, _⟩
  · cases h1
  · injection h1 with h1
    injection h1 with h1
    injection h1 with h1
    subst h1
    have e := h'.symm.trans hg
    injection e with e
    injection e with _ e
    exact ht e
/-- A slice that a call hands back, as a row of numbers. -/
def Back (w x : World) (A : Option Addr) (c : Nat) (l : List Int) : Prop := (A = none → c = 0) ∧ Seen x A l ∧ Kept [] w x
theorem back_own {w y : World} {v : Value} {l : List Int} (hk : Kept [] w y) (hO : Own y v l) : ∃ A c, v = .slice A l.length c ∧ Back w y A c l := by
  rcases hO.form with ⟨rfl, rfl⟩ | ⟨g', cap', rfl, hlt, _, _⟩
  · exact ⟨none, 0, rfl, (fun _ => rfl), (fun h => absurd rfl h), hk⟩
  · exact ⟨_, _, rfl, (fun h => by cases h), hO.seen hlt, hk⟩
end Go.Proofs.YtagmmbkgjomdlaaGreatDoor.By

/-
  The contracts of slices.Index and slices.Contains over bytes.
-/
namespace Go.Proofs.YtagmmbkgjomdlaaGreatDoor.Wk
open Go.RowKit Go.Proofs.YtagmmbkgjomdlaaGreatDoor.Ar Go.Proofs.YtagmmbkgjomdlaaGreatDoor.Sp
set_option linter.unusedVariables false

theorem num_take {l : List Int} {j : Nat} (h : j < l.length) : l.take (j + 1) = l.take j ++ [l.getD j 0] := by
  rw [List.take_add_one, List.getD_eq_getElem?_getD, List.getElem?_eq_getElem h]
  rfl
theorem num_mem {l : List Int} {j : Nat} (h : j < l.length) : l.getD j 0 ∈ l := by
  rw [List.getD_eq_getElem?_getD, List.getElem?_eq_getElem h]
  exact List.getElem_mem h
set_option maxRecDepth 100000 in
set_option maxHeartbeats 2000000 in
theorem index_ok {w : World} {A : Option Addr} {c : Nat} (l : List Int) (hA : By.Seen w A l) (hl : l.length ≤ 1000000) (x : Int) :
    Calls Tryz.prog 98 #[.slice A l.length c, .int .u8 x] w fun e w' => ∃ i : Int, e = .returned (.int .i64 i) ∧ (0 ≤ i ↔ x ∈ l) ∧ Kept [] w w' := by
  have HA := Lib.hid hA
  have H0 : Hid (∀ v ∈ l.take 0, v ≠ x) := Lib.hid (by simp)
  clear hA
  go_enter Tryz.func98, Tryz.ntmps98
  go_wp2_with fail
  go_loop [8] (fun t => ∃ j : Nat, t = .int .i64 (j : Int) ∧ j ≤ l.length ∧ Hid (∀ v ∈ l.take j, v ≠ x)) (fun t => l.length - (intOf t).toNat)
  case atStart => exact ⟨0, rfl, Nat.zero_le _, H0⟩
  case round =>
    obtain ⟨j, rfl, hj, hr⟩ := hrel
    clear H0
    by_cases hlt : j < l.length
    · obtain ⟨g, f, rfl, hc⟩ := HA.out.cells (by intro e; simp [e] at hlt)
      have c0 := hc j hlt
      have htk := num_take hlt
      have hm := num_mem hlt
      clear hc
      generalize l.getD j 0 = y at *
      by_cases hy : x = y
      · subst hy
        have HM := Lib.hid hm
        clear hm htk hr
        go_wp2_with fail
        go_ret
        exact ⟨j, rfl, ⟨fun _ => HM.out, fun _ => by omega⟩, Kept.refl _ _⟩
      · have hb : (x == y) = false := by simpa using hy
        have HN : Hid (∀ v ∈ l.take (j + 1), v ≠ x) := Lib.hid fun v hv => by
          rw [htk] at hv
          rcases List.mem_append.1 hv with hv | hv
          · exact hr.out v hv
          · rw [List.mem_singleton.1 hv]; exact Ne.symm hy
        clear hm htk hr hy
        go_wp2_with fail
        go_round
        case rel => exact ⟨j + 1, by go_num, by omega, HN⟩
        case measure => simp [intOf] <;> omega
    · obtain rfl : j = l.length := by omega
      have HN : Hid (x ∉ l) := Lib.hid (by
        have h := hr.out
        rw [List.take_length] at h
        exact fun hm => h x hm rfl)
      clear hr
      go_wp2_with fail
      go_ret
      exact ⟨-1, rfl, ⟨fun h => by omega, fun h => absurd h HN.out⟩, Kept.refl _ _⟩
theorem contains_ok {w : World} {A : Option Addr} {c : Nat} (l : List Int) (hA : By.Seen w A l) (hl : l.length ≤ 1000000) (x : Int) :
    Calls Tryz.prog 49 #[.slice A l.length c, .int .u8 x] w fun e w' => e = .returned (.bool (l.contains x)) ∧ Kept [] w w' := by
  have H1 := Lib.hid (index_ok (c := c) l hA hl x)
  clear hA
  go_enter Tryz.func49, Tryz.ntmps49
  go_wp2_with fail
  refine H1.out.mono ?_
  rintro e w1 ⟨i, rfl, hi, hk⟩
  have HI := Lib.hid hi
  have HK := Lib.hid hk
  clear hi hk H1
  go_wp2_with fail
  go_ret
  have he : l.contains x = decide (0 ≤ i) := by rw [Bool.eq_iff_iff, List.contains_iff_mem, decide_eq_true_iff]; exact HI.out.symm
  exact ⟨by rw [he]; rfl, HK.out⟩
end Go.Proofs.YtagmmbkgjomdlaaGreatDoor.Wk

/-
  The loop over the references of objects: the contract of the function that walk's references hands back.
-/
namespace Go.Proofs.YtagmmbkgjomdlaaGreatDoor.Wk
open Go.RowKit Go.Proofs.YtagmmbkgjomdlaaGreatDoor.Ar Go.Shelf Go.Sort
open Go.Proofs.YtagmmbkgjomdlaaGreatDoor.Sp hiding Own Seen own_from own_put back_own own_cells seen_one
open Go.Proofs.YtagmmbkgjomdlaaGreatDoor.Sh (ofE)
open Go.Proofs.YtagmmbkgjomdlaaGreatDoor.Hd (Hd Fields)
open Go.Proofs.YtagmmbkgjomdlaaGreatDoor.Tb (Ty Tab)
set_option linter.unusedVariables false
attribute [local go_sem] Oper.semAt_some

set_option maxRecDepth 100000 in
set_option maxHeartbeats 4000000 in
theorem wrefs1_in (n : Nat) (hn : 1 ≤ n) (S : List Nat) (bo ba bb : Nat) (pa pt : Option Addr) (l : List Ty) (ws : List Int) (os : List Cel) (v : Value) (y : Nat) (J Jx : List (ElR (rfs ws l os)) → World → Prop) (W : World) (hJ : AbidesFrom W.heap.size J)
    (hY : ∀ pre x W1, J pre W1 → pre.length < (rfs ws l os).length → YieldAt Fence.wide (n - 1) Tryz.prog y (encR x) W1 fun e W' =>
      (e = .returned (.bool true) ∧ J (pre ++ [x]) W' ∧ Kpn S W1 W') ∨ (e = .returned (.bool false) ∧ Jx (pre ++ [x]) W'))
    (hO : Has W bo 36 [v]) (hbo : bo ∉ S) (hv : Sp.Own W v os) (hlen : os.length ≤ 32768)
    (hA : Has W ba 62 [.pointer pa]) (hB : Has W bb 64 [.pointer pt]) (hg : Good W pa pt l ws) (hoe : ∀ c ∈ os, ofE ws l c.a = 0) (hS : Boxes W S) (h0 : J [] W) :
    CallsIn Fence.wide n Tryz.prog 100 #[.func (.yield y) #[] #[], .pointer (some ⟨bo, 0, none⟩), .pointer (some ⟨ba, 0, none⟩), .pointer (some ⟨bb, 0, none⟩)] W fun e' W' => (∃ v, e' = .returned v) ∧
      ((∃ xs, valsR xs = rfs ws l os ∧ J xs W') ∨ (∃ pre, (∃ rest, rfs ws l os = valsR pre ++ rest) ∧ Jx pre W')) := by
  obtain ⟨A, c, rfl, _⟩ := Sp.back_own (Kept.refl [] W) hv
  have HGd : Hid (∀ X, Kpn S W X → Good X pa pt l ws) := Lib.hid fun X k => hg.kpn hS k
  have HBa : Hid (∀ X, Kpn S W X → Has X ba 62 [.pointer pa]) := Lib.hid fun X k => k.has (hS.other hA (by decide)) hA
  have HBb : Hid (∀ X, Kpn S W X → Has X bb 64 [.pointer pt]) := Lib.hid fun X k => k.has (hS.other hB (by decide)) hB
  have HSn : Hid (∀ X, Kpn S W X → Sp.Seen X A os) := Lib.hid fun X k => (own_kpn hS k hv).seen
  have HSb := Lib.hid hS
  have H0 := Lib.hid h0
  have HY := Lib.hid hY
  have HJ := Lib.hid hJ
  have HOe := Lib.hid hoe
  have c1 := hO.cell 0
  simp at c1
  clear h0 hY hJ hS hA hg hB hO hbo hv hoe
  refine callsIn_of_wp Tryz.func100 rfl trivial ?_ rfl
  simp only [Tryz.ntmps100, List.size_toArray, List.length_cons, List.length_nil, Nat.reduceAdd, Nat.reduceSub, Array.replicate_succ, Array.replicate_zero, List.push_toArray, List.append_toArray, List.nil_append, List.cons_append]
  gi_wp2_with (fail)
  clear c1
  gi_loopw [15] (fun t wr => ∃ i : Nat, t = .int .i64 (i : Int) ∧ i ≤ os.length ∧ Hid (∃ pre, valsR pre = rfs ws l (os.take i) ∧ J pre wr ∧ Kpn S W wr)) (fun t _ => os.length - (intOf t).toNat)
  case atStart => exact ⟨0, rfl, Nat.zero_le _, Lib.hid ⟨[], rfl, H0.out, Kpn.refl _ _⟩⟩
  case round =>
    obtain ⟨wo, rfl⟩ : ∃ wo, wo = wr := ⟨_, rfl⟩
    obtain ⟨i, rfl, hi, hr⟩ := hrel
    by_cases hlt : i < os.length
    · obtain ⟨pre, hpr, hJp, hkp⟩ := hr.out
      obtain ⟨gr, ro, rfl, _, x0, x1, x2, x3, x4⟩ := (HSn.out _ hkp).at i hlt _ rfl
      have he := HOe.out _ (cel_mem hlt)
      have hcut := rfs_cut ws l hlt
      have htk := rfs_take ws l hlt
      generalize os.getD i Cel.zero = x at he hcut htk x0 x1 x2 x3 x4
      obtain ⟨xa, ⟨xt, xy, xl, xz⟩⟩ := x
      simp only at he hcut htk x0 x1 x2 x3 x4
      have hwa : Kept [] wo (wo.alloc (.cells #[.int .i64 xa, .int .u8 xt, .int .i64 xy, .int .i64 xl, .int .i64 xz] 78)) := (Kept.refl [] wo).alloc _
      have hXa := Has.new wo 78 [.int .i64 xa, .int .u8 xt, .int .i64 xy, .int .i64 xl, .int .i64 xz]
      have ca := ((HBa.out _ hkp).keep0 hwa).cell 0
      have cb := ((HBb.out _ hkp).keep0 hwa).cell 0
      simp at ca cb
      have hGa := HGd.out _ (hkp.trans (Kpn.ofKept hwa (fun b hb => Nat.lt_of_lt_of_le (HSb.out.lt b hb) hkp.size)))
      obtain ⟨d0, d1, d2, d3, d4⟩ := cells5 hXa
      have HOf := Lib.hid (hGa.of he)
      have HWa := Lib.hid hwa
      have HXa := Lib.hid hXa
      have HGa := Lib.hid hGa
      have HE := Lib.hid he
      have Hcut := Lib.hid hcut
      have Htk := Lib.hid htk
      have Hpr := Lib.hid hpr
      have HJp := Lib.hid hJp
      have Hkp := Lib.hid hkp
      clear hr hpr hJp hkp he hcut htk hwa hXa hGa
      gi_wp2_with (fail)
      refine ⟨trivial, (callsIn_wide.2 HOf.out).mono ?_⟩
      rintro e w2 ⟨vv, rfl, hvv, hVk, k2⟩
      clear HOf d0 d1 d2 d3 d4 x0 x1 x2 x3 x4 ca cb
      have HRf := Lib.hid (Good.refs (HGa.out.keep0 k2) HE.out hVk)
      have HX2 := Lib.hid (HXa.out.keep0 k2)
      have HVk := Lib.hid hVk
      have K2 := Lib.hid (HWa.out.trans k2)
      have hvw : wo.heap.size ≤ vv := Nat.le_trans HWa.out.more hvv
      clear k2 hVk hvv
      gi_wp2_with (fail)
      refine ⟨trivial, (callsIn_wide.2 HRf.out).mono ?_⟩
      rintro e w3 ⟨u, rfl, hU, hF, k3⟩
      obtain ⟨Au, cu, rfl, _⟩ := Ir.back_own (Kept.refl [] _) hU
      have hSb3 : ∀ b ∈ S, b < wo.heap.size := fun b hb => Nat.lt_of_lt_of_le (HSb.out.lt b hb) Hkp.out.size
      have hnw : ∀ g, wo.heap.size ≤ g → g ∉ S ∧ ∀ b ∈ S, ownAt w3 b ≠ some g := fun g h => HSb.out.newer Hkp.out (K2.out.trans k3) h
      have hk03 : Kpn S W w3 := Hkp.out.trans (Kpn.ofKept (K2.out.trans k3) hSb3)
      have HX3 : Hid (∀ X, Kpn S w3 X → Has X wo.heap.size 78 [.int .i64 xa, .int .u8 xt, .int .i64 xy, .int .i64 xl, .int .i64 xz]) := Lib.hid fun X k => k.has (hnw _ (Nat.le_refl _)) (HX2.out.keep0 k3)
      have HV3 : Hid (∀ X, Kpn S w3 X → Good.Vk X vv pa ws l xa) := Lib.hid fun X k => Vk.kpn (Vk.keep0 HVk.out k3) (hnw _ hvw) k
      have HU3 : Hid (∀ X, Kpn S w3 X → Ir.Own X (.slice Au (slR ws l xa).length cu) (slR ws l xa)) := Lib.hid fun X k => ir_kpn hU (fun g h => by
        refine hnw _ ?_
        rcases hF with h1 | ⟨b, h1, h2⟩
        · rw [h1] at h; cases h
        · rw [h1] at h
          injection h with h
          subst h
          exact Nat.le_trans K2.out.more h2) k
      have HG3 : Hid (∀ X, Kpn S w3 X → Good X pa pt l ws) := Lib.hid fun X k => HGd.out _ (hk03.trans k)
      have H3 : Hid (J pre w3) := Lib.hid (HJ.out pre wo w3 none HJp.out (grownBy_of (K2.out.trans k3)) (fun r e => by cases e))
      have hsl : (slR ws l xa).length ≤ 65536 := by
        obtain ⟨gn, sl, o, h1, _⟩ := HGa.out.obj HE.out
        have h2 := slR_len ws l xa
        rw [o.f.slEq, Int.toNat_natCast] at h2
        omega
      have Hk03 := Lib.hid hk03
      clear hU hF k3 hSb3 hnw hk03 HRf HX2 HVk K2 HWa HXa HGa HJp Hkp hvw
      gi_wp2_with (fail)
      gi_loopw [30] (fun t wr => ∃ j : Nat, t = .int .i64 (j : Int) ∧ j ≤ (slR ws l xa).length ∧ Hid (∃ pre, valsR pre = rfs ws l (os.take i) ++ (oneR ws l xa).take j ∧ J pre wr ∧ Kpn S w3 wr)) (fun t _ => (slR ws l xa).length - (intOf t).toNat)
      case atStart => exact ⟨0, rfl, Nat.zero_le _, Lib.hid ⟨pre, by rw [Hpr.out]; simp, H3.out, Kpn.refl _ _⟩⟩
      case round =>
        obtain ⟨j, rfl, hj, hr⟩ := hrel
        obtain ⟨pr2, hpr, hJp, hkp⟩ := hr.out
        clear H3 hr
        by_cases hlj : j < (slR ws l xa).length
        · have hrm := num_mem hlj
          have hot := one_take hlj
          have hol := one_len ws l xa
          obtain ⟨gu, fu, rfl, hc⟩ := (ir_seen (HU3.out _ hkp)).cells (by intro e; rw [e] at hlj; simp at hlj)
          have c0 := hc j hlj
          generalize (slR ws l xa).getD j 0 = r at hrm hot c0
          have HLd := Lib.hid (Good.load (HG3.out _ hkp) HE.out (HV3.out _ hkp) hrm)
          have hXc := HX3.out _ hkp
          generalize ws.getD (2 * xa + 1 + r).toNat 0 = wv at hot HLd
          have hm1 : (⟨xa, r, wv⟩ : Tri) ∈ oneR ws l xa := List.mem_of_mem_take (i := j + 1) (by rw [hot]; simp)
          have hmem : (⟨xa, r, wv⟩ : Tri) ∈ rfs ws l os := by rw [Hcut.out]; exact List.mem_append_left _ (List.mem_append_right _ hm1)
          have hlen' : pr2.length < (rfs ws l os).length := by
            have h1 := congrArg List.length hpr
            have h2 := congrArg List.length Hcut.out
            unfold valsR at h1
            simp only [List.length_append, List.length_map, List.length_take] at h1 h2
            omega
          have Hyy := Lib.hid (HY.out pr2 ⟨_, hmem⟩ wr hJp hlen')
          have hnext : valsR (pr2 ++ [⟨_, hmem⟩]) = rfs ws l (os.take i) ++ (oneR ws l xa).take (j + 1) := by rw [valsR_snoc, hpr, hot, List.append_assoc]
          have Hrest : Hid (∃ rest, rfs ws l os = valsR (pr2 ++ [⟨_, hmem⟩]) ++ rest) := Lib.hid ⟨(oneR ws l xa).drop (j + 1) ++ rfs ws l (os.drop (i + 1)), by rw [hnext, Hcut.out, List.append_assoc, List.append_assoc, ← List.append_assoc (List.take _ _), List.take_append_drop]⟩
          have Hnext := Lib.hid hnext
          have HXc : Hid (∀ X, Kpn S wr X → Kpn S w3 X) := Lib.hid fun X k => hkp.trans k
          obtain ⟨d0, d1, d2, d3, d4⟩ := cells5 hXc
          clear hc hpr hot hol hm1 hlen' hnext hkp hXc hJp hrm
          gi_wp2_with (fail)
          refine ⟨trivial, (callsIn_wide.2 HLd.out).mono ?_⟩
          rintro e w4 ⟨rfl, rfl⟩
          obtain ⟨fn, tmps, assign, body, hy, hR⟩ := Hyy.out
          dsimp only [encR] at hy
          clear Hyy HLd
          gi_wp2_with (fail)
          refine hR.mono ?_
          rintro e3 W3 (⟨rfl, hJ3, hkp3⟩ | ⟨rfl, hJx⟩)
          · have HN : Hid (∃ pre, valsR pre = rfs ws l (os.take i) ++ (oneR ws l xa).take (j + 1) ∧ J pre W3 ∧ Kpn S w3 W3) := Lib.hid ⟨_, Hnext.out, hJ3, HXc.out _ hkp3⟩
            clear hJ3 hkp3 hy hR Hnext Hrest HXc c0 d0 d1 d2 d3 d4
            gi_wp2_with (fail)
            go_roundw
            case rel => exact ⟨j + 1, by go_num, by omega, HN⟩
            case measure => simp [intOf] <;> omega
          · clear hy hR
            gi_wp2_with (fail)
            refine bodyPost_ret (results_none rfl _ _ _) rfl ?_
            exact ⟨⟨_, rfl⟩, .inr ⟨_, Hrest.out, hJx⟩⟩
        · obtain rfl : j = (slR ws l xa).length := by omega
          have HN : Hid (∃ pre, valsR pre = rfs ws l (os.take (i + 1)) ∧ J pre wr ∧ Kpn S W wr) := Lib.hid ⟨pr2, by rw [hpr, Htk.out, ← one_len, List.take_length], hJp, Hk03.out.trans hkp⟩
          clear hpr hJp hkp
          gi_wp2_with (fail)
          go_roundw
          case rel => exact ⟨i + 1, by go_num, by omega, HN⟩
          case measure => simp [intOf] <;> omega
    · obtain rfl : i = os.length := by omega
      obtain ⟨pre, hpr, hJp, hkp⟩ := hr.out
      rw [List.take_length] at hpr
      have Hpr := Lib.hid hpr
      have HJp := Lib.hid hJp
      clear hr hpr hJp hkp
      gi_wp2_with (fail)
      go_end0
      exact ⟨⟨_, rfl⟩, .inl ⟨pre, Hpr.out, HJp.out⟩⟩
theorem wrefs_stops (n : Nat) (hn : 1 ≤ n) (S : List Nat) (bo ba bb : Nat) (pa pt : Option Addr) (l : List Ty) (ws : List Int) (os : List Cel) (v : Value) (w : World)
    (hO : Has w bo 36 [v]) (hbo : bo ∉ S) (hv : Sp.Own w v os) (hlen : os.length ≤ 32768)
    (hA : Has w ba 62 [.pointer pa]) (hB : Has w bb 64 [.pointer pt]) (hg : Good w pa pt l ws) (hoe : ∀ c ∈ os, ofE ws l c.a = 0) (hS : Boxes w S) :
    SeqStopsK Fence.wide n Tryz.prog 100 #[.pointer (some ⟨bo, 0, none⟩), .pointer (some ⟨ba, 0, none⟩), .pointer (some ⟨bb, 0, none⟩)] (encR (rs := rfs ws l os)) (Kpn S) (fun xs => valsR xs = rfs ws l os) (fun pre => ∃ rest, rfs ws l os = valsR pre ++ rest) (rfs ws l os).length w :=
  fun y J Jx W hW hJ _ hY h0 => wrefs1_in n hn S bo ba bb pa pt l ws os v y J Jx W hJ hY (hO.keep0 (Kept.ofBelow hW [])) hbo (hv.keep0 (Kept.ofBelow hW [])) hlen (hA.keep0 (Kept.ofBelow hW [])) (hB.keep0 (Kept.ofBelow hW [])) (hg.keep0 (Kept.ofBelow hW [])) hoe (hS.keep0 (Kept.ofBelow hW [])) h0
end Go.Proofs.YtagmmbkgjomdlaaGreatDoor.Wk

/-
  The law's own guard: Heavy.
-/
namespace Go.Proofs.YtagmmbkgjomdlaaGreatDoor.Sp
open Go.RowKit Go.Proofs.YtagmmbkgjomdlaaGreatDoor.Ar
set_option linter.unusedVariables false
theorem step_at {w : World} {A : Option Addr} {L : List Stp} (h : Steps w A L) (j : Nat) (hj : j < L.length) : ∃ g f s, A = some ⟨g, f, none⟩ ∧ g < w.heap.size ∧ s ∈ L ∧ w.cell? ⟨g, f + j * 6, none⟩ = some (.int .i64 s.d) ∧ w.cell? ⟨g, f + j * 6 + 1, none⟩ = some (.int .i64 s.g) ∧ w.cell? ⟨g, f + j * 6 + 2, none⟩ = some (.int .i64 s.i) ∧ w.cell? ⟨g, f + j * 6 + 3, none⟩ = some (.int .i64 s.n) ∧ w.cell? ⟨g, f + j * 6 + 4, none⟩ = some (.int .u64 s.u) ∧ w.cell? ⟨g, f + j * 6 + 5, none⟩ = some (.slice s.A s.len s.cap) := by
  obtain ⟨g, f, e, hg, hc⟩ := h (by rintro rfl; cases hj)
  have h1 := hc j L[j] (List.getElem?_eq_getElem hj)
  exact ⟨g, f, L[j], e, hg, List.getElem_mem hj, h1 0 _ rfl, h1 1 _ rfl, h1 2 _ rfl, h1 3 _ rfl, h1 4 _ rfl, h1 5 _ rfl⟩
/-- What is let through. -/
def Light (n : Int) (k m : Nat) : Prop := (n ≤ 600 ∨ 65536 < n) ∧ k ≤ 70 ∧ m ≤ 60
end Go.Proofs.YtagmmbkgjomdlaaGreatDoor.Sp
