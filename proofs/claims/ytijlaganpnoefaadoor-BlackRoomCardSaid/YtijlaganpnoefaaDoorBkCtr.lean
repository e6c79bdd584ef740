/-
  Stage 12, black: what the laws ask of package black, as a bundle of contracts over whatever object; that object beside the document's.
-/
import Derived.Test.YtijlaganpnoefaaDoorBkRefDo
import Derived.Test.YtijlaganpnoefaaDoorBkRefTurn
import Derived.Test.YtijlaganpnoefaaDoorBkRefFirst
import Derived.Test.YtijlaganpnoefaaDoorBkSame
import Derived.Test.YtijlaganpnoefaaDoorBkOpen
namespace Go.Proofs.YtijlaganpnoefaaDoor.Bk
open Go.RowKit Go.Proofs.YtijlaganpnoefaaDoor.Ar
set_option linter.unusedVariables false

def Fresh (x : World) (v : Value) : Prop := v.ownBlock = none ∨ ∃ b, v.ownBlock = some b ∧ x.heap.size ≤ b
/-- G: what stands from the start. P w x p T ls: in x, at p, lies a list with the ages ls, in the blocks T, all made behind w. -/
structure Ctr (G : World → Prop) (P : World → World → Nat → List Nat → List Int → Prop) : Prop where
  gkeep : ∀ {w x : World}, G w → Kept [] w x → G x
  kept : ∀ {w x y : World} {p : Nat} {T S : List Nat} {ls : List Int}, P w x p T ls → Kept S x y → (∀ i ∈ T, i ∉ S) → (∀ i ∈ S, w.heap.size ≤ i) → P w y p T ls
  fresh : ∀ {w x : World} {p : Nat} {T : List Nat} {ls : List Int}, P w x p T ls → ∀ i ∈ T, w.heap.size ≤ i ∧ i < x.heap.size
  start : ∀ {w x : World} {p : Nat} {T : List Nat} {ls : List Int}, P w x p T ls → Kept [] w x
  aged : ∀ {w x : World} {p : Nat} {T : List Nat} {ls : List Int}, P w x p T ls → Aged ls ∧ ls.length ≤ 65536
  new_no : ∀ {x : World} (n : Int), G x → I64 n → (n < 0 ∨ 65536 < n) → Calls Tryd.prog 9 #[.int .i64 n] x fun e y => e = .returned (.tuple #[.pointer none, .int .i64 2]) ∧ Kept [] x y
  new_yes : ∀ {w x : World} (n : Nat), G w → Kept [] w x → n ≤ 65536 → Calls Tryd.prog 9 #[.int .i64 n] x fun e y => ∃ p T, e = .returned (.tuple #[.pointer (some ⟨p, 0, none⟩), .int .i64 0]) ∧ P w y p T (List.replicate n 0) ∧ Kept [] x y ∧ ∀ i ∈ T, x.heap.size ≤ i
  hit : ∀ {w x : World} {p : Nat} {T : List Nat} {ls : List Int} {A : Option Addr} {c : Nat} (gs : List Int), P w x p T ls → (∀ y, Kept T x y → Ir.Seen y A gs) → gs.length ≤ 1000000 → (∀ g ∈ gs, I64 g) →
    Calls Tryd.prog 13 #[.pointer (some ⟨p, 0, none⟩), .slice A gs.length c] x fun e y => e = .returned (.int .i64 (hitE ls.length gs)) ∧ ∃ T', P w y p T' (hitL ls gs) ∧ Kept T x y ∧ ∀ i ∈ T', i ∈ T ∨ x.heap.size ≤ i
  turn : ∀ {w x : World} {p : Nat} {T : List Nat} {ls : List Int}, P w x p T ls → Calls Tryd.prog 14 #[.pointer (some ⟨p, 0, none⟩)] x fun e y => e = .returned (.int .i64 (ones ls)) ∧ ∃ T', P w y p T' (turnL ls) ∧ Kept T x y ∧ ∀ i ∈ T', i ∈ T ∨ x.heap.size ≤ i
  has : ∀ {w x : World} {p : Nat} {T : List Nat} {ls : List Int} (g : Int), P w x p T ls → I64 g → Calls Tryd.prog 19 #[.pointer (some ⟨p, 0, none⟩), .int .i64 g] x fun e y => e = .returned (.bool (hasL ls g)) ∧ Kept [] x y
  len : ∀ {w x : World} {p : Nat} {T : List Nat} {ls : List Int}, P w x p T ls → Calls Tryd.prog 22 #[.pointer (some ⟨p, 0, none⟩)] x fun e y => e = .returned (.int .i64 ls.length) ∧ Kept [] x y
  count : ∀ {w x : World} {p : Nat} {T : List Nat} {ls : List Int}, P w x p T ls → Calls Tryd.prog 21 #[.pointer (some ⟨p, 0, none⟩)] x fun e y => e = .returned (.int .i64 (listL ls).length) ∧ Kept [] x y
  list : ∀ {w x : World} {p : Nat} {T : List Nat} {ls : List Int}, P w x p T ls → Calls Tryd.prog 23 #[.pointer (some ⟨p, 0, none⟩)] x fun e y => ∃ v, e = .returned v ∧ Ir.Own y v (listL ls) ∧ Fresh x v ∧ Kept [] x y
  first : ∀ {w x : World} {p : Nat} {T : List Nat} {ls : List Int} (a b n : Int), P w x p T ls → I64 a → I64 b → I64 n → Calls Tryd.prog 17 #[.pointer (some ⟨p, 0, none⟩), .int .i64 a, .int .i64 b, .int .i64 n] x fun e y => e = .returned (.tuple #[.int .i64 ((firstL ls a b n).getD 0), .bool (firstL ls a b n).isSome]) ∧ Kept [] x y
  copy : ∀ {w x : World} {p : Nat} {T : List Nat} {ls : List Int}, P w x p T ls → Calls Tryd.prog 12 #[.pointer (some ⟨p, 0, none⟩)] x fun e y => ∃ p' T', e = .returned (.pointer (some ⟨p', 0, none⟩)) ∧ P w y p' T' ls ∧ Kept [] x y ∧ ∀ i ∈ T', x.heap.size ≤ i
/-- .. and of no list. -/
structure CtrNil (G : World → Prop) : Prop where
  hit : ∀ {x : World} {A : Option Addr} {n c : Nat}, G x → Calls Tryd.prog 13 #[.pointer none, .slice A n c] x fun e y => e = .returned (.int .i64 1) ∧ Kept [] x y
  turn : ∀ {x : World}, G x → Calls Tryd.prog 14 #[.pointer none] x fun e y => e = .returned (.int .i64 0) ∧ Kept [] x y
  has : ∀ {x : World} (g : Int), G x → I64 g → Calls Tryd.prog 19 #[.pointer none, .int .i64 g] x fun e y => e = .returned (.bool false) ∧ Kept [] x y
  len : ∀ {x : World}, G x → Calls Tryd.prog 22 #[.pointer none] x fun e y => e = .returned (.int .i64 0) ∧ Kept [] x y
  count : ∀ {x : World}, G x → Calls Tryd.prog 21 #[.pointer none] x fun e y => e = .returned (.int .i64 0) ∧ Kept [] x y
  list : ∀ {x : World}, G x → Calls Tryd.prog 23 #[.pointer none] x fun e y => ∃ v, e = .returned v ∧ Ir.Own y v [] ∧ Kept [] x y
  first : ∀ {x : World} (a b n : Int), G x → I64 a → I64 b → I64 n → Calls Tryd.prog 17 #[.pointer none, .int .i64 a, .int .i64 b, .int .i64 n] x fun e y => e = .returned (.tuple #[.int .i64 0, .bool false]) ∧ Kept [] x y
  copy : ∀ {x : World}, G x → Calls Tryd.prog 12 #[.pointer none] x fun e y => e = .returned (.pointer none) ∧ Kept [] x y
section
variable {G : World → Prop} {P : World → World → Nat → List Nat → List Int → Prop} {w x y : World} {p r q : Nat} {T : List Nat} {ls ds : List Int}
theorem Ctr.keep0 (C : Ctr G P) (h : P w x p T ls) (k : Kept [] x y) : P w y p T ls := C.kept h k (fun _ _ hi => by cases hi) (fun _ hi => by cases hi)
/-- A law's own list, with the ages ls, beside the document's, with ds. -/
structure BDuo (P : World → World → Nat → List Nat → List Int → Prop) (w x : World) (p : Nat) (T : List Nat) (ls : List Int) (r q : Nat) (ds : List Int) : Prop where
  ours : P w x p T ls
  doc : Bl x r q ds
  nr : r ∉ T
  nq : q ∉ T
  fr : w.heap.size ≤ r
  fq : w.heap.size ≤ q
theorem BDuo.keep0 (C : Ctr G P) (h : BDuo P w x p T ls r q ds) (k : Kept [] x y) : BDuo P w y p T ls r q ds := ⟨C.keep0 h.ours k, h.doc.keep0 k, h.nr, h.nq, h.fr, h.fq⟩
/-- Ours has turned. -/
theorem BDuo.mine (C : Ctr G P) (h : BDuo P w x p T ls r q ds) {T' : List Nat} {ls' : List Int} (k : Kept T x y) (hp : P w y p T' ls') (ht : ∀ i ∈ T', i ∈ T ∨ x.heap.size ≤ i) : BDuo P w y p T' ls' r q ds := by
  have hr := h.doc.head.lt
  have hq := h.doc.row.lt
  refine ⟨hp, h.doc.kept k h.nr h.nq, fun hm => ?_, fun hm => ?_, h.fr, h.fq⟩
  · rcases ht r hm with h1 | h1
    · exact h.nr h1
    · omega
  · rcases ht q hm with h1 | h1
    · exact h.nq h1
    · omega
/-- The document's has turned. -/
theorem BDuo.theirs (C : Ctr G P) (h : BDuo P w x p T ls r q ds) {ds' : List Int} (k : Kept [q] x y) (hb : Bl y r q ds') : BDuo P w y p T ls r q ds' :=
  ⟨C.kept h.ours k (fun i hi hm => h.nq (by rw [← List.mem_singleton.1 hm]; exact hi)) (fun i hi => by rw [List.mem_singleton.1 hi]; exact h.fq), hb, h.nr, h.nq, h.fr, h.fq⟩
end
end Go.Proofs.YtijlaganpnoefaaDoor.Bk
