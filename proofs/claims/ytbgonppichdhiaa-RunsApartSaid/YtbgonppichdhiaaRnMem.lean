/-
  A set of runs in memory: a head, and the links behind it; and the contracts of New, end, check, links.
-/
import Derived.Test.YtbgonppichdhiaaRnOps
import Derived.Test.YtbgonppichdhiaaRf
import Derived.Test.YtbgonppichdhiaaRoundKit
import Derived.WalkKit
import Derived.BigQuiet
import Derived.OwnWalk
import Derived.Lib.QuietBelow
namespace Go.Proofs.Ytbgonppichdhiaa.Rn
open Go.RowKit Go.Proofs.Ytbgonppichdhiaa.Ar Go.Proofs.Ytbgonppichdhiaa.Bt
set_option linter.unusedVariables false

/-- A link: its block, and its run. -/
structure Nd where
  b : Nat
  a : Nat
  l : Nat
def Nd.r (n : Nd) : R := (n.a, n.l)
def runsIn (ns : List Nd) : List R := ns.map Nd.r
/-- Where the first one is. -/
def ptr : List Nd → Option Addr
  | [] => none
  | n :: _ => some ⟨n.b, 0, none⟩
def linkV (a l : Int) (x : Option Addr) : List Value := [.int .i64 a, .int .i64 l, .pointer x]
/-- Links, one behind the other; behind the last one stands x. -/
def Seg (w : World) (x : Option Addr) : List Nd → Prop
  | [] => True
  | n :: ns => Has w n.b 52 (linkV n.a n.l (match ns with | [] => x | m :: _ => some ⟨m.b, 0, none⟩)) ∧ Seg w x ns
def front (x : Option Addr) : List Nd → Option Addr
  | [] => x
  | n :: _ => some ⟨n.b, 0, none⟩
theorem ptr_append (P Q : List Nd) : ptr (P ++ Q) = front (ptr Q) P := by cases P <;> rfl
theorem Seg.cons {w : World} {x : Option Addr} {n : Nd} {ns : List Nd} : Seg w x (n :: ns) ↔ Has w n.b 52 (linkV n.a n.l (front x ns)) ∧ Seg w x ns := by
  cases ns <;> exact Iff.rfl
theorem Seg.append {w : World} {x : Option Addr} {Q : List Nd} : ∀ {P : List Nd}, Seg w x (P ++ Q) ↔ Seg w (front x Q) P ∧ Seg w x Q
  | [] => ⟨fun h => ⟨trivial, h⟩, fun h => h.2⟩
  | n :: P => by
    have ih := Seg.append (w := w) (x := x) (Q := Q) (P := P)
    have e : front x (P ++ Q) = front (front x Q) P := by cases P <;> rfl
    rw [List.cons_append, Seg.cons, Seg.cons, ih, e, and_assoc]
theorem Seg.kept {S : List Nat} {w w' : World} {x : Option Addr} : ∀ {ns : List Nd}, Seg w x ns → Kept S w w' → (∀ n ∈ ns, n.b ∉ S) → Seg w' x ns
  | [], _, _, _ => trivial
  | n :: ns, h, k, hS => by
    rw [Seg.cons] at h ⊢
    exact ⟨h.1.kept k (hS n (by simp)), Seg.kept h.2 k fun m hm => hS m (by simp [hm])⟩
theorem Seg.keep0 {w w' : World} {x : Option Addr} {ns : List Nd} (h : Seg w x ns) (k : Kept [] w w') : Seg w' x ns := h.kept k fun _ _ => by simp
theorem Seg.mem {w : World} {x : Option Addr} : ∀ {ns : List Nd}, Seg w x ns → ∀ n ∈ ns, ∃ v, Has w n.b 52 (linkV n.a n.l v)
  | [], _, n, h => by cases h
  | m :: ns, h, n, hn => by
    rw [Seg.cons] at h
    rcases List.mem_cons.1 hn with rfl | hn
    · exact ⟨_, h.1⟩
    · exact Seg.mem h.2 n hn

/-- A set at p, with these links. -/
structure Rs (w : World) (p : Nat) (ns : List Nd) : Prop where
  head : Has w p 54 (linkV (-1) 0 (ptr ns))
  seg : Seg w none ns
  apart : (ns.map Nd.b).Nodup
def blocks (p : Nat) (ns : List Nd) : List Nat := p :: ns.map Nd.b
namespace Rs
variable {w w' : World} {p : Nat} {ns : List Nd}
theorem kept {S : List Nat} (h : Rs w p ns) (k : Kept S w w') (hS : ∀ b ∈ blocks p ns, b ∉ S) : Rs w' p ns :=
  ⟨h.head.kept k (hS p (by simp [blocks])), h.seg.kept k fun n hn => hS n.b (by simp only [blocks, List.mem_cons, List.mem_map]; exact .inr ⟨n, hn, rfl⟩), h.apart⟩
theorem keep0 (h : Rs w p ns) (k : Kept [] w w') : Rs w' p ns := h.kept k fun _ _ => by simp
theorem lt (h : Rs w p ns) : ∀ b ∈ blocks p ns, b < w.heap.size := by
  intro b hb
  rcases List.mem_cons.1 hb with rfl | hb
  · exact h.head.lt
  · obtain ⟨n, hn, rfl⟩ := List.mem_map.1 hb
    obtain ⟨v, hv⟩ := h.seg.mem n hn
    exact hv.lt
theorem mem (h : Rs w p ns) : ∀ n ∈ ns, n.b < w.heap.size ∧ n.b ≠ p := fun n hn => by
  obtain ⟨v, hv⟩ := h.seg.mem n hn
  exact ⟨hv.lt, Has.block_type hv h.head (by decide)⟩
theorem other (h : Rs w p ns) {b : Nat} {t : TypeId} {cs : List Value} (hb : Has w b t cs) (h1 : t ≠ 54) (h2 : t ≠ 52) : b ∉ blocks p ns := by
  intro hm
  rcases List.mem_cons.1 hm with rfl | hm
  · exact Has.block_type hb h.head h1 rfl
  · obtain ⟨n, hn, rfl⟩ := List.mem_map.1 hm
    obtain ⟨v, hv⟩ := h.seg.mem n hn
    exact Has.block_type hb hv h2 rfl
end Rs
/-- A set, or none, by the value that names it. -/
def Set? (w : World) (x : Option Addr) (ns : List Nd) : Prop := (x = none ∧ ns = []) ∨ ∃ p, x = some ⟨p, 0, none⟩ ∧ Rs w p ns
theorem Set?.keep0 {w w' : World} {x : Option Addr} {ns : List Nd} (h : Set? w x ns) (k : Kept [] w w') : Set? w' x ns := by
  rcases h with h | ⟨p, e, h⟩
  · exact .inl h
  · exact .inr ⟨p, e, h.keep0 k⟩
theorem Set?.mem {w : World} {x : Option Addr} {ns : List Nd} (h : Set? w x ns) : ∀ n ∈ ns, ∃ v, Has w n.b 52 (linkV n.a n.l v) := by
  rcases h with ⟨_, rfl⟩ | ⟨p, _, h⟩
  · intro n hn; cases hn
  · exact h.seg.mem

theorem new_ok (w : World) : Calls Try.prog 8 #[] w fun e w' => e = .returned (.pointer (some ⟨w.heap.size, 0, none⟩)) ∧ Rs w' w.heap.size [] ∧ Kept [] w w' := by
  go_enter Try.func8, Try.ntmps8
  go_wp2_with fail
  go_ret
  exact ⟨rfl, ⟨Has.new w _ [.int .i64 (-1), .int .i64 0, .pointer none], trivial, List.nodup_nil⟩, (Kept.refl [] w).alloc _⟩
def runV (a n : Int) : Value := .agg #[.int .i64 a, .int .i64 n]
theorem end_ok (a n : Int) (w : World) (h1 : -9223372036854775808 ≤ a + n) (h2 : a + n ≤ 9223372036854775807) :
    Calls Try.prog 29 #[runV a n] w fun e w' => e = .returned (.int .i64 (a + n)) ∧ Kept [] w w' := by
  unfold runV
  go_enter Try.func29, Try.ntmps29
  go_wp2_with fail
  go_ret
  exact ⟨rfl, (Kept.refl [] w).alloc _⟩
theorem check_nil (a n : Int) (w : World) : Calls Try.prog 27 #[.pointer none, runV a n] w fun e w' => e = .returned (.int .i64 1) ∧ Kept [] w w' := by
  unfold runV
  go_enter Try.func27, Try.ntmps27
  go_wp2_with fail
  go_ret
  exact ⟨rfl, (Kept.refl [] w).alloc _⟩
theorem check_ok (p : Nat) (a n : Int) (w : World) (a1 : -9223372036854775808 ≤ a) (a2 : a ≤ 9223372036854775807) (n1 : -9223372036854775808 ≤ n) (n2 : n ≤ 9223372036854775807) :
    Calls Try.prog 27 #[.pointer (some ⟨p, 0, none⟩), runV a n] w fun e w' => e = .returned (.int .i64 (errOf (valid a n))) ∧ Kept [] w w' := by
  unfold runV
  by_cases h0 : 0 ≤ a
  · by_cases h1 : 1 ≤ n
    · by_cases h2 : n ≤ 65536 - a
      · rw [show errOf (valid a n) = 0 from by rw [(valid_iff a n).2 ⟨h0, h1, h2⟩]; rfl]
        go_enter Try.func27, Try.ntmps27
        go_wp2_with fail
        go_ret
        exact ⟨rfl, (Kept.refl [] w).alloc _⟩
      · rw [show errOf (valid a n) = 2 from by unfold valid; rw [decide_eq_false (by omega)]; rfl]
        go_enter Try.func27, Try.ntmps27
        go_wp2_with fail
        go_ret
        exact ⟨rfl, (Kept.refl [] w).alloc _⟩
    · rw [show errOf (valid a n) = 2 from by unfold valid; rw [decide_eq_false (by omega)]; rfl]
      go_enter Try.func27, Try.ntmps27
      go_wp2_with fail
      go_ret
      exact ⟨rfl, (Kept.refl [] w).alloc _⟩
  · rw [show errOf (valid a n) = 2 from by unfold valid; rw [decide_eq_false (by omega)]; rfl]
    go_enter Try.func27, Try.ntmps27
    go_wp2_with fail
    go_ret
    exact ⟨rfl, (Kept.refl [] w).alloc _⟩
theorem links_ok (x : Option Addr) (w : World) :
    Calls Try.prog 26 #[.pointer x] w fun e w' => e = .returned (.func (.func 36) #[] #[.pointer (some ⟨w.heap.size, 0, none⟩)]) ∧ w' = w.alloc (.cells #[.pointer x] 24) := by
  go_enter Try.func26, Try.ntmps26
  go_wp2_with fail
  go_ret
  exact ⟨rfl, rfl⟩
end Go.Proofs.Ytbgonppichdhiaa.Rn
