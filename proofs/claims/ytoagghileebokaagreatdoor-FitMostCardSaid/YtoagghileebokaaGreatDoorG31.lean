/-
  Several texts in one: IntRow, KdRef, KdRefs, KdDocRefs.
-/
import Derived.Test.YtoagghileebokaaGreatDoorProg
import Derived.Test.YtoagghileebokaaGreatDoorG01
import Derived.WalkKit
import Derived.Laws.MakeOwn
import Derived.Maps.AppendAt
import Derived.Laws.AppendOwnNone
import Derived.OwnWalk
import Derived.Test.YtoagghileebokaaGreatDoorG06
import Derived.Test.YtoagghileebokaaGreatDoorG08
/-
  Rows of numbers ([]int): as cells of a block, as a slice that is seen, as one that was made by appends; make and append as laws.
-/
namespace Go.Proofs.YtoagghileebokaaGreatDoor.Ir
open Go.RowKit Go.Proofs.YtoagghileebokaaGreatDoor.Ar

/-- A list of numbers as cells. -/
def ints (ws : List Int) : List Value := ws.map (Value.int .i64)
theorem ints_length (ws : List Int) : (ints ws).length = ws.length := List.length_map _
theorem ints_get (ws : List Int) (i : Nat) (h : i < ws.length) : (ints ws)[i]? = some (.int .i64 (ws.getD i 0)) := by
  unfold ints
  rw [List.getElem?_map, List.getElem?_eq_getElem h]
  simp [List.getD, List.getElem?_eq_getElem h]
theorem ints_set (ws : List Int) (i : Nat) (v : Int) : (ints ws).set i (.int .i64 v) = ints (ws.set i v) := by
  unfold ints
  rw [List.map_set]
theorem ints_one (ws : List Int) : ∀ v ∈ ints ws, v.oneCell' = true := by
  intro v hv
  unfold ints at hv
  obtain ⟨x, _, rfl⟩ := List.mem_map.1 hv
  rfl
theorem ints_cut (ws : List Int) (f k j : Nat) (v : Value) (h : (ints ((ws.drop f).take k))[j]? = some v) : (ints ws)[f + j]? = some v := by
  unfold ints at *
  rw [List.getElem?_map, List.getElem?_take] at h
  split at h
  · rw [List.getElem?_drop] at h
    rw [List.getElem?_map]
    exact h
  · simp at h
theorem info_i64 : (Tryz.prog.info? 3).map (fun i => (i.zero, i.size, i.bytes)) = some (some (.int .i64 0), 1, 8) := by kernel_rfl
/-- A slice of numbers that reads as a list: an empty one has whatever address. -/
def Seen (w : World) (A : Option Addr) (l : List Int) : Prop := l ≠ [] → ∃ g f, A = some ⟨g, f, none⟩ ∧ g < w.heap.size ∧ ∀ j v, (ints l)[j]? = some v → w.cell? ⟨g, f + j, none⟩ = some v
theorem Seen.keep {w w' : World} {A : Option Addr} {l : List Int} (h : Seen w A l) (hk : ∀ g f, A = some ⟨g, f, none⟩ → g < w.heap.size → w'.heap[g]? = w.heap[g]?) (hs : w.heap.size ≤ w'.heap.size) : Seen w' A l := by
  intro hl
  obtain ⟨g, f, e, hg, hc⟩ := h hl
  exact ⟨g, f, e, by omega, fun j v hv => (World.cell?_of_block (w := w) (hk g f e hg)).trans (hc j v hv)⟩
theorem Seen.keep0 {w w' : World} {A : Option Addr} {l : List Int} (h : Seen w A l) (k : Kept [] w w') : Seen w' A l :=
  h.keep (fun g _ _ hg => k.old g hg (by simp)) k.more
theorem Seen.cells {w : World} {A : Option Addr} {l : List Int} (h : Seen w A l) (hl : l ≠ []) : ∃ g f, A = some ⟨g, f, none⟩ ∧ ∀ j, j < l.length → w.cell? ⟨g, f + j, none⟩ = some (.int .i64 (l.getD j 0)) := by
  obtain ⟨g, f, e, _, hc⟩ := h hl
  exact ⟨g, f, e, fun j hj => hc j _ (ints_get l j hj)⟩
/-- A word of a row that came in, read in a later world. -/
theorem Seen.later {w : World} {A : Option Addr} {l : List Int} (h : Seen w A l) (hl : l ≠ []) : ∃ g f, A = some ⟨g, f, none⟩ ∧ ∀ x, Kept [] w x → ∀ j, j < l.length → x.cell? ⟨g, f + j, none⟩ = some (.int .i64 (l.getD j 0)) := by
  obtain ⟨g, f, e, hg, hc⟩ := h hl
  exact ⟨g, f, e, fun x hx j hj => (World.cell?_of_block (w := w) (hx.old g hg (by simp))).trans (hc j _ (ints_get l j hj))⟩
theorem seen_sub {y : World} {g f : Nat} {l : List Int} (h : Seen y (some ⟨g, f, none⟩) l) (r k : Nat) : Seen y (some ⟨g, f + r, none⟩) ((l.drop r).take k) := by
  intro hne
  obtain ⟨g', f', e, hg, hc⟩ := h (fun h0 => hne (by rw [h0]; simp))
  injection e with e
  injection e with e1 e2
  subst e1 e2
  exact ⟨g, f + r, rfl, hg, fun j v hv => by rw [Nat.add_assoc]; exact hc (r + j) v (ints_cut l r k j v hv)⟩
theorem seen_take {y : World} {g : Nat} {l : List Int} (h : Seen y (some ⟨g, 0, none⟩) l) (k : Nat) : Seen y (some ⟨g, 0, none⟩) (l.take k) := by
  intro hne
  obtain ⟨g', f', e, hg, hc⟩ := h (fun h0 => hne (by rw [h0]; simp))
  refine ⟨g', f', e, hg, fun j v hv => hc j v ?_⟩
  unfold ints at *
  rw [List.map_take, List.getElem?_take] at hv
  split at hv
  · exact hv
  · cases hv
/-- What is left behind a cut of a row, at whatever address an empty rest has. -/
theorem seen_rest {y : World} {g : Nat} {l : List Int} (h : Seen y (some ⟨g, 0, none⟩) l) (r cap : Nat) (hr : r ≤ l.length) (hc : l.length ≤ cap) : Seen y (if cap = r then some ⟨g, 0, none⟩ else some ⟨g, r, none⟩) (l.drop r) := by
  by_cases e : cap = r
  · intro hne
    exact absurd (List.drop_eq_nil_of_le (by omega)) hne
  · rw [if_neg e]
    have hs := seen_sub h r (l.length - r)
    rw [Nat.zero_add, List.take_of_length_le (by rw [List.length_drop]; omega)] at hs
    exact hs
/-- A row of numbers of the call's own. -/
def Row (w : World) (g : Nat) (l : List Int) : Prop := Has w g 3 (ints l)
theorem Row.seen {w : World} {g : Nat} {l : List Int} (h : Row w g l) : Seen w (some ⟨g, 0, none⟩) l :=
  fun _ => ⟨g, 0, rfl, Has.lt h, fun j v hv => by rw [Has.cell h, Nat.zero_add]; exact hv⟩
/-- A slice value that was made by appends alone, with these numbers. -/
def Own (w : World) (v : Value) (l : List Int) : Prop := w.ownsRow 0 3 1 v l.length (ints l)
theorem Own.nil (w : World) : Own w (.slice none 0 0) [] := World.ownsRow_nil w 0 _ 1
/-- It is nil and empty, or lies at the head of a block. -/
theorem Own.form {w : World} {v : Value} {l : List Int} (h : Own w v l) : (v = .slice none 0 0 ∧ l = []) ∨ ∃ g cap, v = .slice (some ⟨g, 0, none⟩) l.length cap ∧ g < w.heap.size ∧ l.length ≤ cap ∧ cap ≤ maxLen := by
  rcases h.2 with ⟨rfl, h0⟩ | ⟨g, cap, cur, rfl, _, hg, hc, hm, _⟩
  · exact .inl ⟨rfl, List.eq_nil_of_length_eq_zero h0⟩
  · exact .inr ⟨g, cap, rfl, (Array.getElem?_eq_some_iff.1 hg).1, hc, hm⟩
theorem Own.cell {w : World} {g n cap : Nat} {l : List Int} (h : Own w (.slice (some ⟨g, 0, none⟩) n cap) l) : ∀ j v, (ints l)[j]? = some v → w.cell? ⟨g, j, none⟩ = some v := by
  intro j v hv
  rcases h.2 with ⟨h1, _⟩ | ⟨g', cap', cur, h1, _, hg, _, _, _, ht⟩
  · cases h1
  · injection h1 with h1 h2 h3
    injection h1 with h1
    injection h1 with h1
    subst h1
    rw [cell_of_row w g j cur _ (0, 0) hg, ← Array.getElem?_toList]
    rw [← ht, List.getElem?_take] at hv
    split at hv
    · exact hv
    · cases hv
theorem Own.seen {w : World} {g n cap : Nat} {l : List Int} (h : Own w (.slice (some ⟨g, 0, none⟩) n cap) l) (hg : g < w.heap.size) : Seen w (some ⟨g, 0, none⟩) l :=
  fun _ => ⟨g, 0, rfl, hg, fun j v hv => by rw [Nat.zero_add]; exact h.cell j v hv⟩
theorem Own.keep {w w' : World} {v : Value} {l : List Int} {row : Option Nat} (h : Own w v l) (hg : w.grownBy w' row) (hne : v.ownBlock = none ∨ v.ownBlock ≠ row) : Own w' v l := World.ownsRow.kept h hg hne
theorem Own.kept {w w' : World} {v : Value} {l : List Int} {S : List Nat} (h : Own w v l) (k : Kept S w w') (hS : ∀ g ∈ S, v.ownBlock ≠ some g) : Own w' v l := by
  refine ⟨h.1, ?_⟩
  rcases h.2 with hn | ⟨g, cap, cur, rfl, hb, hg, rest⟩
  · exact .inl hn
  · refine .inr ⟨g, cap, cur, rfl, hb, ?_, rest⟩
    rw [k.old g (Array.getElem?_eq_some_iff.1 hg).1 fun hs => hS g hs rfl]
    exact hg
theorem Own.keep0 {w w' : World} {v : Value} {l : List Int} (h : Own w v l) (k : Kept [] w w') : Own w' v l := h.kept k fun _ hi => by cases hi
/-- append, where what is appended is a row of numbers that is seen (nil, empty or not). -/
theorem append_numbers {w : World} {ops : Array Oper} {rest : List Oper} {o : Oper} {a : Act} {Q : Exit → Act → World → Prop} (hgd : o.guard = none) (s x : Operand)
    (ho : o.op = .call { callee := .builtin .append, args := #[s, x], argTypes := #[24, 24] })
    (v : Value) (l : List Int) (hs : a.eval s = v) (hown : Own w v l) (A : Option Addr) (m c : Nat) (news : List Int) (hx : a.eval x = .slice A m c) (hm : news.length = m) (hnil : A = none → c = 0) (hseen : Seen w A news)
    (hb : l.length + m ≤ 1073741824)
    (h : ∀ v' w', Own w' v' (l ++ news) → w.grownBy w' v.ownBlock → (v'.ownBlock = v.ownBlock ∨ v'.ownBlock = some w.heap.size) → wpList Tryz.prog ops Q rest (a.put o.dst v') w') : wpList Tryz.prog ops Q (o :: rest) a w := by
  obtain ⟨i0, hi, hz0, hz1, hz2⟩ := info_parts info_i64
  subst hm
  cases A with
  | none =>
    have hn : news = [] := by
      cases news with
      | nil => rfl
      | cons y ys =>
        obtain ⟨g, f, e, _⟩ := hseen (by simp)
        cases e
    subst hn
    obtain rfl := hnil rfl
    refine wpList_append_own_none hgd s x 24 ho 0 3 i0 1 Tryz.underlying24 hi v l.length (ints l) hs hown hx ?_
    exact h v w (by rw [List.append_nil]; exact hown) (World.grownBy.refl w _) (.inl rfl)
  | some ad =>
    refine wpList_append_own_at w hgd s x 24 ho 0 3 i0 (.int .i64 0) 1 8 Tryz.underlying24 hi hz0 hz1 hz2 rfl (by decide) v l.length (ints l) hs hown ad news.length c (ints news) hx (by rw [ints_length, Nat.mul_one]) ?_ (ints_one news) (by unfold maxLen; omega) (by omega) (Nat.zero_le _) ?_
    · intro j u hu
      by_cases hne : news = []
      · subst hne; cases hu
      · obtain ⟨g, f, e, _, hc⟩ := hseen hne
        obtain rfl := Option.some.inj e
        rw [add_at]
        exact hc j u hu
    · intro v' w' h1 h2 _ h4
      refine h v' w' ?_ h2 h4
      unfold Own ints at *
      rw [List.length_append, List.map_append]
      exact h1
theorem Own.block_type {w : World} {g n cap b : Nat} {l : List Int} {t : TypeId} {cs : List Value} (h : Own w (.slice (some ⟨g, 0, none⟩) n cap) l) (h' : Has w b t cs) (ht : t ≠ 3) : b ≠ g := by
  rintro rfl
  rcases h.2 with ⟨h1, _⟩ | ⟨g', cap', cur, h1, _, hg, _⟩
  · cases h1
  · injection h1 with h1
    injection h1 with h1
    injection h1 with h1
    subst h1
    have e := h'.symm.trans hg
    injection e with e
    injection e with _ e
    exact ht e
/-- A slice that a call hands back, as a row of numbers. -/
def Back (w x : World) (A : Option Addr) (c : Nat) (l : List Int) : Prop := (A = none → c = 0) ∧ Seen x A l ∧ Kept [] w x
theorem back_own {w y : World} {v : Value} {l : List Int} (hk : Kept [] w y) (hO : Own y v l) : ∃ A c, v = .slice A l.length c ∧ Back w y A c l := by
  rcases hO.form with ⟨rfl, rfl⟩ | ⟨g', cap', rfl, hlt, _, _⟩
  · exact ⟨none, 0, rfl, (fun _ => rfl), (fun h => absurd rfl h), hk⟩
  · exact ⟨_, _, rfl, (fun h => by cases h), hO.seen hlt, hk⟩
end Go.Proofs.YtoagghileebokaaGreatDoor.Ir

/-
  The contracts of Ref and Refs.
-/
namespace Go.Proofs.YtoagghileebokaaGreatDoor.Kd
open Go.RowKit Go.Proofs.YtoagghileebokaaGreatDoor.Ar Go.Proofs.YtoagghileebokaaGreatDoor.Ir Go.Maps
set_option linter.unusedVariables false

end Go.Proofs.YtoagghileebokaaGreatDoor.Kd

/-
  The contract of Refs: all slots that are references, rising.
-/
namespace Go.Proofs.YtoagghileebokaaGreatDoor.Kd
open Go.RowKit Go.Proofs.YtoagghileebokaaGreatDoor.Ar Go.Proofs.YtoagghileebokaaGreatDoor.Ir Go.Maps
set_option linter.unusedVariables false

theorem refsTo_succ (k : Nat) (wd : Int) (mk m : Nat) : refsTo k wd mk (m + 1) = if isRef k wd mk m then refsTo k wd mk m ++ [(m : Int)] else refsTo k wd mk m := by
  unfold refsTo
  rw [List.range_succ, List.filter_append]
  cases h : isRef k wd mk m
  · simp [h]
  · simp [h]
theorem refsTo_length (k : Nat) (wd : Int) (mk m : Nat) : (refsTo k wd mk m).length ≤ m := by
  unfold refsTo
  rw [List.length_map]
  have := List.length_filter_le (isRef k wd mk) (List.range m)
  rwa [List.length_range] at this
/-- All slots that are references. -/
def refsR (k : Nat) (wd : Int) (mk : Nat) (n : Int) : List Int := if err k wd mk n = 0 then refsTo k wd mk (slots k wd n).toNat else []
def Fresh (w : World) (v : Value) : Prop := v.ownBlock = none ∨ ∃ b, v.ownBlock = some b ∧ w.heap.size ≤ b
def RefsPost (w : World) (k : Nat) (wd : Int) (mk : Nat) (n : Int) (e : Ending) (w' : World) : Prop := ∃ v, e = .returned (.tuple #[v, .int .i64 (err k wd mk n)]) ∧ Ir.Own w' v (refsR k wd mk n) ∧ Kept [] w w'
end Go.Proofs.YtoagghileebokaaGreatDoor.Kd

/-
  The document's is, Ref, and Refs.
-/
namespace Go.Proofs.YtoagghileebokaaGreatDoor.Kd
open Go.RowKit Go.Proofs.YtoagghileebokaaGreatDoor.Ar Go.Proofs.YtoagghileebokaaGreatDoor.Ir Go.Maps
set_option linter.unusedVariables false

set_option maxRecDepth 100000 in
theorem is_ok {k : Nat} {wd : Int} {mk : Nat} {n : Int} (h : err k wd mk n = 0) (hm : mk < 18446744073709551616) (s : Nat) (hs : (s : Int) < slots k wd n) (w : World) :
    Calls Tryz.prog 145 #[typV k wd mk, .int .i64 (s : Int)] w fun e w' => e = .returned (.bool (isRef k wd mk s)) ∧ Kept [] w w' := by
  obtain ⟨sb0, sb1⟩ := slots_bound h
  obtain ⟨hy, h0, h1, h2⟩ := err_zero h
  obtain ⟨_, w0, w1, hk, w3⟩ := may_kind hy
  obtain ⟨v, rfl⟩ := Int.eq_ofNat_of_zero_le w0
  clear h hy
  unfold typV
  rcases hk with rfl | rfl | rfl | rfl
  · have hs' : s < v := by have : (s : Int) < (v : Int) := hs; omega
    have hr : isRef 1 (v : Int) mk s = decide (mk / 2 ^ s % 2 = 1) := by
      show decide (mk / 2 ^ (s % v) % 2 = 1) = _
      rw [Nat.mod_eq_of_lt hs']
    rw [hr, ← bit_test]
    have hs64 : s < 64 := by omega
    clear hr hs
    go_enter Tryz.func145, Tryz.ntmps145
    go_wp2_with fail
    go_ret
    exact ⟨rfl, (Kept.refl [] w).alloc _⟩
  · go_enter Tryz.func145, Tryz.ntmps145
    go_wp2_with fail
    go_ret
    exact ⟨rfl, (Kept.refl [] w).alloc _⟩
  · have hr : isRef 3 (v : Int) mk s = decide (mk / 2 ^ (s % v) % 2 = 1) := rfl
    rw [hr, ← bit_test]
    obtain ⟨v1, v2⟩ := w3 rfl
    have hw : ¬ ((v : Int) = 0) := by omega
    have hs2 : s ≤ 65536 := by omega
    have hrl : s % v < 64 := by have := Nat.mod_lt s (show 0 < v by omega); omega
    clear hr hs sb0 sb1
    have ht : IntKind.i64.wrap ((s : Int).tmod (v : Int)) = ((s % v : Nat) : Int) := by
      rw [Int.tmod_eq_emod_of_nonneg (by omega), IntKind.wrap_i64]
      omega
    go_enter Tryz.func145, Tryz.ntmps145
    go_wp2_with fail
    go_quiet (fail)
    go_wp2_with fail
    go_ret
    exact ⟨rfl, ((Kept.refl [] w).alloc _).drewN _⟩
  · go_enter Tryz.func145, Tryz.ntmps145
    go_wp2_with fail
    go_ret
    exact ⟨rfl, (Kept.refl [] w).alloc _⟩
set_option maxRecDepth 100000 in
set_option maxHeartbeats 4000000 in
theorem refsDoc_ok (k : Nat) (wd : Int) (mk : Nat) (n : Int) (hm : mk < 18446744073709551616) (w : World) :
    Calls Tryz.prog 117 #[typV k wd mk, .int .i64 n] w (RefsPost w k wd mk n) := by
  have HL := Lib.hid (fun x => slotsDoc_ok k wd mk n hm x)
  have hka : ∀ (x : World) (o : Obj), Kept [] x (x.alloc o) := fun x o => (Kept.refl [] x).alloc o
  have hH : Has (w.alloc (.cells #[.int .u8 (k : Int), .int .i64 wd, .int .u64 (mk : Int)] 57)) w.heap.size 57 [.int .u8 (k : Int), .int .i64 wd, .int .u64 (mk : Int)] := Has.new w _ _
  unfold RefsPost refsR slotsR at *
  by_cases h : err k wd mk n = 0
  · have HI := Lib.hid (fun (t : Nat) (ht : (t : Int) < slots k wd n) x => is_ok h hm t ht x)
    obtain ⟨sb0, sb1⟩ := slots_bound h
    unfold typV at *
    simp only [h, if_true] at HL ⊢
    clear h
    obtain ⟨sl, hsl⟩ := Int.eq_ofNat_of_zero_le sb0
    rw [hsl] at HL HI sb0 sb1 ⊢
    rw [Int.toNat_natCast]
    clear hsl sb0
    have hsb : sl ≤ 65536 := by omega
    go_enter Tryz.func117, Tryz.ntmps117
    go_wp2_with fail
    refine (HL.out _).mono ?_
    rintro e W2 ⟨rfl, hk1⟩
    have hk4 := Lib.hid ((hka w _).trans hk1)
    have Hl := Lib.hid (hH.keep0 hk1)
    clear hk1 HL hH
    go_wp2_with fail
    generalize w.heap.size = B at *
    go_loopw [8, 9] (fun s t wr => ∃ m : Nat, m ≤ sl ∧ t = .int .i64 (m : Int) ∧ Hid (Ir.Own wr s (refsTo k wd mk m) ∧ Fresh W2 s ∧ Kept [] W2 wr)) (fun _ t _ => sl - (intOf t).toNat)
    case atStart => exact ⟨0, Nat.zero_le _, rfl, Lib.hid ⟨Ir.Own.nil _, .inl rfl, Kept.refl _ _⟩⟩
    case round =>
      obtain ⟨m, hm', rfl, hr⟩ := hrel
      by_cases hlt : m < sl
      · obtain ⟨x0, x1, x2⟩ := cells3 (Hl.out.keep0 hr.out.2.2)
        have HR' := Lib.hid (fun x => HI.out m (by omega) x)
        have hstep := refsTo_succ k wd mk m
        have hlen := refsTo_length k wd mk m
        cases hb : isRef k wd mk m with
        | false =>
          rw [hb] at HR' hstep
          rw [if_neg (by decide)] at hstep
          have HE := Lib.hid hstep
          clear hb hstep
          go_wp2_with fail
          refine (HR'.out _).mono ?_
          rintro e W3 ⟨rfl, hk5⟩
          have HN := Lib.hid (show Ir.Own W3 u8 (refsTo k wd mk (m + 1)) ∧ Fresh W2 u8 ∧ Kept [] W2 W3 from ⟨by rw [HE.out]; exact hr.out.1.keep0 hk5, hr.out.2.1, hr.out.2.2.trans hk5⟩)
          clear hk5 HR' hr
          go_wp2_with fail
          go_roundw
          case rel => exact ⟨m + 1, by omega, by go_num, HN⟩
          case measure => simp [intOf]; omega
        | true =>
          rw [hb] at HR' hstep
          rw [if_pos rfl] at hstep
          have HE := Lib.hid hstep
          clear hb hstep
          go_wp2_with fail
          refine (HR'.out _).mono ?_
          rintro e W3 ⟨rfl, hk5⟩
          have HO0 := Lib.hid (hr.out.1.keep0 hk5)
          have HK0 := Lib.hid (hr.out.2.2.trans hk5)
          have HF := Lib.hid hr.out.2.1
          clear hk5 HR' hr
          have HK := Lib.hid ((Kept.refl [] W3).alloc (.cells #[.int .i64 (m : Int)] 3))
          have HSe : Hid (Ir.Seen (W3.alloc (.cells #[.int .i64 (m : Int)] 3)) (some ⟨W3.heap.size, 0, none⟩) [(m : Int)]) := Ir.Row.seen (Has.new W3 3 (Ir.ints [(m : Int)]))
          have HO := Lib.hid (HO0.out.keep0 HK.out)
          generalize refsTo k wd mk m = L at *
          go_wp2_with (at_builtin; (refine append_numbers rfl (.tmp 27) (.tmp 29) rfl u8 L rfl HO.out (some ⟨W3.heap.size, 0, none⟩) 1 1 [(m : Int)] rfl rfl (fun h => by cases h) HSe.out (by omega) ?_))
          intro s2 w2 hO2 hG2 hB2
          have hwk2 := HK0.out.trans HK.out
          have hF2 := own_fresh (v' := s2) hwk2 HF.out (by rw [World.size_alloc]; exact hB2)
          have hK2 := own_grown hwk2 HF.out hG2
          have HN := Lib.hid (show Ir.Own w2 s2 (refsTo k wd mk (m + 1)) ∧ Fresh W2 s2 ∧ Kept [] W2 w2 from ⟨by rw [HE.out]; exact hO2, hF2, hK2⟩)
          clear hO2 hG2 hB2 hK2 hF2 HK HSe HO hwk2
          go_wp2_with fail
          go_roundw
          case rel => exact ⟨m + 1, by omega, by go_num, HN⟩
          case measure => simp [intOf]; omega
      · obtain rfl : m = sl := by omega
        go_wp2_with fail
        go_ret2
        exact ⟨_, rfl, hr.out.1, hk4.out.trans hr.out.2.2⟩
  · unfold typV at *
    simp only [h, if_false] at HL ⊢
    have he : (err k wd mk n != 0) = true := by rw [bne_iff_ne]; exact h
    generalize err k wd mk n = er at *
    go_enter Tryz.func117, Tryz.ntmps117
    go_wp2_with fail
    refine (HL.out _).mono ?_
    rintro e W1 ⟨rfl, hk1⟩
    have hk2 := Lib.hid ((hka w _).trans hk1)
    clear hk1
    go_wp2_with fail
    go_ret2
    exact ⟨_, rfl, Ir.Own.nil _, hk2.out⟩
end Go.Proofs.YtoagghileebokaaGreatDoor.Kd
