/-
  The loop over a set's links: the contract of the function that links hands back.
-/
import Derived.Test.YtbgonppichdhiaaRnMem
import Derived.RangeFuncNested
import Derived.RangeFuncLeaves
import Derived.RangeFuncBound
import Derived.RangeFuncCalls
import Derived.Shelf.Abstract
import Derived.Shelf.RegionOpen
import Derived.OwnWalkIn
import Derived.TacticsInMore
import Derived.LoopNIn
import Derived.LoopIn
namespace Go.Proofs.Ytbgonppichdhiaa.Rn
open Go.RowKit Go.Proofs.Ytbgonppichdhiaa.Ar Go.Proofs.Ytbgonppichdhiaa.Bt Go.Shelf Go.Sort
set_option linter.unusedVariables false
attribute [local go_sem] Oper.semAt_some

/-- One of the links. -/
abbrev Ln (ns : List Nd) := { n : Nd // n ∈ ns }
def encs {ns : List Nd} (x : Ln ns) : Array Value := #[.pointer (some ⟨x.1.b, 0, none⟩)]
def vals {ns : List Nd} (xs : List (Ln ns)) : List Nd := xs.map (·.1)
theorem vals_snoc {ns : List Nd} (xs : List (Ln ns)) (x : Ln ns) : vals (xs ++ [x]) = vals xs ++ [x.1] := by simp [vals]
theorem below_has {n₀ : Nat} {w w' : World} {b : Nat} {t : TypeId} {cs : List Value} (h : Has w b t cs) (k : Below n₀ w w') (hb : b < n₀) : Has w' b t cs := (k.block b hb).trans h
theorem below_seg {n₀ : Nat} {w w' : World} (k : Below n₀ w w') {x : Option Addr} : ∀ {ns : List Nd}, Seg w x ns → (∀ n ∈ ns, n.b < n₀) → Seg w' x ns
  | [], _, _ => trivial
  | n :: ns, h, hn => by
    rw [Seg.cons] at h ⊢
    exact ⟨below_has h.1 k (hn n (by simp)), below_seg k h.2 fun m hm => hn m (by simp [hm])⟩
/-- How many links there are from this one on. -/
def left (ns : List Nd) (v : Value) : Nat := match v with
  | .pointer (some a) => (ns.dropWhile fun m => m.b != a.block).length
  | _ => 0
theorem left_eq {ns : List Nd} (hn : (ns.map Nd.b).Nodup) : ∀ {P rest : List Nd}, ns = P ++ rest → left ns (.pointer (ptr rest)) = rest.length := by
  intro P rest e
  cases rest with
  | nil => rfl
  | cons m rest =>
    show (ns.dropWhile fun k => k.b != m.b).length = (m :: rest).length
    subst e
    rw [List.map_append, List.nodup_append] at hn
    have hP : ∀ k ∈ P, (k.b != m.b) = true := fun k hk => by
      have := hn.2.2 k.b (List.mem_map_of_mem hk) m.b (by simp)
      simpa using this
    rw [List.dropWhile_append_of_pos hP, List.dropWhile_cons_of_neg (by simp)]

set_option maxRecDepth 100000 in
set_option maxHeartbeats 1000000 in
theorem links1_in (n : Nat) (hn : 1 ≤ n) (n₀ bb : Nat) (x : Option Addr) (ns : List Nd) (hlt : ∀ m ∈ ns, m.b < n₀) (l : Nat) (J Jx : List (Ln ns) → World → Prop) (W : World)
    (hY : ∀ pre x W1, J pre W1 → pre.length < ns.length → YieldAt Fence.wide (n - 1) Try.prog l (encs x) W1 fun e W' =>
      (e = .returned (.bool true) ∧ J (pre ++ [x]) W' ∧ Below n₀ W1 W') ∨ (e = .returned (.bool false) ∧ Jx (pre ++ [x]) W'))
    (hB : Has W bb 24 [.pointer x]) (hS : Set? W x ns) (h0 : J [] W) :
    CallsIn Fence.wide n Try.prog 36 #[.func (.yield l) #[] #[], .pointer (some ⟨bb, 0, none⟩)] W fun e' W' => (∃ v, e' = .returned v) ∧
      ((∃ xs, vals xs = ns ∧ J xs W') ∨ (∃ pre, (∃ rest, ns = vals pre ++ rest) ∧ Jx pre W')) := by
  have cb := hB.cell 0
  simp at cb
  have H0 := Lib.hid h0
  have HY := Lib.hid hY
  have Hlt := Lib.hid hlt
  clear hB h0 hY hlt
  rcases hS with ⟨rfl, rfl⟩ | ⟨p, rfl, hS⟩
  · refine callsIn_of_wp Try.func36 rfl trivial ?_ rfl
    simp only [Try.ntmps36, List.size_toArray, List.length_cons, List.length_nil, Nat.reduceAdd, Nat.reduceSub, Array.replicate_succ, Array.replicate_zero, List.push_toArray, List.append_toArray, List.nil_append, List.cons_append]
    gi_wp2_with (fail)
    refine bodyPost_ret (results_none rfl _ _ _) rfl ?_
    exact ⟨⟨_, rfl⟩, .inl ⟨[], rfl, H0.out⟩⟩
  · have c2 := hS.head.cell 2
    simp [linkV] at c2
    have HS := Lib.hid hS
    clear hS
    obtain ⟨q, hq⟩ : ∃ q, q = ptr ns := ⟨_, rfl⟩
    rw [← hq] at c2
    have Hq := Lib.hid hq
    clear hq
    refine callsIn_of_wp Try.func36 rfl trivial ?_ rfl
    simp only [Try.ntmps36, List.size_toArray, List.length_cons, List.length_nil, Nat.reduceAdd, Nat.reduceSub, Array.replicate_succ, Array.replicate_zero, List.push_toArray, List.append_toArray, List.nil_append, List.cons_append]
    gi_wp2_with (fail)
    gi_loopw [3] (fun v wr => ∃ (pre : List (Ln ns)) (rest : List Nd), v = .pointer (ptr rest) ∧ Hid (ns = vals pre ++ rest ∧ Seg wr none rest ∧ J pre wr)) (fun v _ => left ns v)
    case atStart => exact ⟨[], ns, by rw [Hq.out], Lib.hid ⟨rfl, HS.out.seg, H0.out⟩⟩
    case round =>
      obtain ⟨pre, rest, rfl, hr⟩ := hrel
      cases rest with
      | nil =>
        have HF := Lib.hid (And.intro (show vals pre = ns from (hr.out.1.trans (List.append_nil _)).symm) hr.out.2.2)
        clear hr
        rw [show ptr ([] : List Nd) = none from rfl]
        gi_wp2_with (fail)
        refine ⟨fun _ h => (by cases h), ?_⟩
        gi_wp2_with (fail)
        go_end0
        exact ⟨⟨_, rfl⟩, .inl ⟨pre, HF.out.1, HF.out.2⟩⟩
      | cons m rest =>
        have hm : m ∈ ns := by rw [hr.out.1]; simp
        have hlen : pre.length < ns.length := by
          have := congrArg List.length hr.out.1
          rw [List.length_append, List.length_cons] at this
          unfold vals at this
          rw [List.length_map] at this
          omega
        obtain ⟨fn, tmps, assign, body, hy, hR⟩ := HY.out pre ⟨m, hm⟩ wr hr.out.2.2 hlen
        dsimp only [encs] at hy
        have hmea : Hid (left ns (.pointer (ptr rest)) < left ns (.pointer (some ⟨m.b, 0, none⟩))) := Lib.hid (by
          have e1 := left_eq HS.out.apart hr.out.1
          have e2 := left_eq HS.out.apart (P := vals pre ++ [m]) (rest := rest) (hr.out.1.trans (by simp))
          have e3 : left ns (.pointer (some ⟨m.b, 0, none⟩)) = (m :: rest).length := e1
          rw [e3, e2, List.length_cons]
          omega)
        clear hlen
        rw [show ptr (m :: rest) = some ⟨m.b, 0, none⟩ from rfl]
        gi_wp2_with (fail)
        refine hR.mono ?_
        rintro e3 W3 (⟨rfl, hJ3, hkp⟩ | ⟨rfl, hJx⟩)
        · have hsg := below_seg hkp hr.out.2.1 fun k hk => Hlt.out k (by rw [hr.out.1]; exact List.mem_append_right _ hk)
          rw [Seg.cons] at hsg
          have c3 := hsg.1.cell 2
          simp [linkV] at c3
          have HN : Hid (ns = vals (pre ++ [⟨m, hm⟩]) ++ rest ∧ Seg W3 none rest ∧ J (pre ++ [⟨m, hm⟩]) W3) := Lib.hid ⟨hr.out.1.trans (by rw [vals_snoc]; simp), hsg.2, hJ3⟩
          have efr : front none rest = ptr rest := by cases rest <;> rfl
          rw [efr] at c3
          clear efr hJ3 hkp hsg hr hy
          gi_wp2_with (fail)
          go_roundw
          case rel => exact ⟨_, rest, rfl, HN⟩
          case measure => exact hmea.out
        · have HN : Hid (ns = vals (pre ++ [⟨m, hm⟩]) ++ rest) := Lib.hid (hr.out.1.trans (by rw [vals_snoc]; simp))
          clear hr hy
          gi_wp2_with (fail)
          go_end0
          exact ⟨⟨_, rfl⟩, .inr ⟨_, ⟨rest, HN.out⟩, hJx⟩⟩

theorem links_stops (n : Nat) (hn : 1 ≤ n) (n₀ bb : Nat) (x : Option Addr) (ns : List Nd) (hlt : ∀ m ∈ ns, m.b < n₀) (w : World) (hB : Has w bb 24 [.pointer x]) (hS : Set? w x ns) :
    SeqStopsK Fence.wide n Try.prog 36 #[.pointer (some ⟨bb, 0, none⟩)] (encs (ns := ns)) (Below n₀) (fun xs => vals xs = ns) (fun pre => ∃ rest, ns = vals pre ++ rest) ns.length w :=
  fun l J Jx W hW hJ _ hY h0 => links1_in n hn n₀ bb x ns hlt l J Jx W hY (hB.keep0 (Kept.ofBelow hW [])) (hS.keep0 (Kept.ofBelow hW [])) h0
end Go.Proofs.Ytbgonppichdhiaa.Rn
