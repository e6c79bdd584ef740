/-
  What TablePlays carries: a table of its own, and the document's row beside it.
-/
import Derived.Test.YtkplagnmdjaajaaTbStaysLaw
namespace Go.Proofs.Ytkplagnmdjaajaa.Tb
open Go.RowKit Go.Proofs.Ytkplagnmdjaajaa.Ar Go.Maps
set_option linter.unusedVariables false

/-- A table with types k, the document's row with types q, that share nothing. -/
def Two (w wr : World) (p : Nat) (A : Option Addr) (c : Nat) (A5 : Option Addr) (c5 : Nat) (k q : List Ty) : Prop :=
  Made w wr p A c k ∧ Back w wr A5 c5 q ∧ (q ≠ [] → ∀ g ∈ blk A5, g ≠ p ∧ g ∉ blk A)
section
variable {w wr w2 w3 : World} {p : Nat} {A : Option Addr} {c : Nat} {A5 : Option Addr} {c5 : Nat} {k q : List Ty}
theorem Two.later (h : Two w wr p A c A5 c5 k q) (kk : Kept [] wr w2) : Two w w2 p A c A5 c5 k q := ⟨h.1.later kk, h.2.1.later kk, h.2.2⟩
theorem Seen.blk_lt {y : World} {B : Option Addr} {l : List Ty} (h : Seen y B l) (hl : l ≠ []) : ∀ g ∈ blk B, g < y.heap.size := fun g hg => by
  obtain ⟨g', f, rfl, hlt, _⟩ := h hl
  obtain rfl : g = g' := List.mem_singleton.1 hg
  exact hlt
theorem Seen.far {y z : World} {B : Option Addr} {l : List Ty} {S : List Nat} (h : Seen y B l) (kk : Kept S y z) (hS : l ≠ [] → ∀ g ∈ blk B, g ∉ S) : Seen z B l := fun hl =>
  h.keep (fun g f e hg => kk.old g hg (hS hl g (by rw [e]; exact List.mem_singleton.2 rfl))) kk.more hl
theorem Two.added {x : Ty} {e : Ending} (h : Two w wr p A c A5 c5 k q) (hp : AddPost wr p A k x e w2) :
    ∃ A' c', e = .returned (.tuple #[.int .i64 (addN k x), .int .i64 (addE k x)]) ∧ Two w w2 p A' c' A5 c5 (addL k x) q := by
  obtain ⟨A2, c2, he, h1, h2, h3⟩ := hp
  refine ⟨A2, c2, he, ⟨h1, h.1.2.1, fun g hg => (h3 g hg).elim (h.1.2.2.1 g) fun hh => Nat.le_trans h.1.2.2.2.more hh, ?_⟩, ⟨h.2.1.1, h.2.1.2.1.far h2 fun hq g hg hm => ?_, ?_⟩, fun hq g hg => ⟨(h.2.2 hq g hg).1, fun hm => ?_⟩⟩
  · exact h.1.2.2.2.forget h2 fun i hi => by
      rcases List.mem_cons.1 hi with rfl | hi
      · exact h.1.2.1
      · exact h.1.2.2.1 i hi
  · rcases List.mem_cons.1 hm with rfl | hm
    · exact (h.2.2 hq g hg).1 rfl
    · exact (h.2.2 hq g hg).2 hm
  · exact h.1.2.2.2.forget h2 fun i hi => by
      rcases List.mem_cons.1 hi with rfl | hi
      · exact h.1.2.1
      · exact h.1.2.2.1 i hi
  · rcases h3 g hm with hm | hm
    · exact (h.2.2 hq g hg).2 hm
    · have := h.2.1.2.1.blk_lt hq g hg
      omega
theorem Two.doc {x : Ty} {e : Ending} (h : Two w wr p A c A5 c5 k q) (hp : DAddPost wr A5 q x e w2) :
    ∃ A' c', e = .returned (.tuple #[.slice A' (addL q x).length c', .int .i64 (addN q x), .int .i64 (addE q x)]) ∧ Two w w2 p A c A' c' k (addL q x) := by
  obtain ⟨A2, c2, he, h1, h2⟩ := hp
  refine ⟨A2, c2, he, h.1.later h1.2.2, h1.before h.2.1.2.2, fun hq g hg => ?_⟩
  rcases h2 with h2 | ⟨rfl, h2⟩
  · have h3 := h2 g hg
    have h4 := h.1.1.head.lt
    refine ⟨fun e => by omega, fun hm => ?_⟩
    have := h.1.1.blk_lt g hm
    omega
  · rw [h2] at hq
    exact h.2.2 hq g hg
theorem Two.copied {p2 : Nat} {A2 : Option Addr} {c2 : Nat} {x : Ty} {e : Ending} (h : Two w wr p A c A5 c5 k q) (hT : Tab w2 p2 A2 c2 k) (hp : wr.heap.size ≤ p2) (hA : ∀ g ∈ blk A2, wr.heap.size ≤ g) (kk : Kept [] wr w2) (ha : AddPost w2 p A k x e w3) :
    Two w w3 p2 A2 c2 A5 c5 k q := by
  obtain ⟨A3, c3, _, h1, h2, h3⟩ := ha
  have hplt := h.1.1.head.lt
  have hK : Kept [] w w3 := (h.1.2.2.2.trans kk).forget h2 fun i hi => by
    rcases List.mem_cons.1 hi with rfl | hi
    · exact h.1.2.1
    · exact h.1.2.2.1 i hi
  refine ⟨⟨hT.kept h2 (fun hm => ?_) (fun g hg e => ?_), Nat.le_trans h.1.2.2.2.more hp, fun g hg => Nat.le_trans h.1.2.2.2.more (hA g hg), hK⟩, ⟨h.2.1.1, (h.2.1.2.1.keep0 kk).far h2 fun hq g hg hm => ?_, hK⟩, fun hq g hg => ⟨fun e => ?_, fun hm => ?_⟩⟩
  · rcases List.mem_cons.1 hm with e | hm
    · omega
    · have := h.1.1.blk_lt _ hm
      omega
  · have hg2 : wr.heap.size ≤ g := hA g (blk_own e)
    rcases List.mem_cons.1 hg with e | hm
    · omega
    · have := h.1.1.blk_lt _ hm
      omega
  · rcases List.mem_cons.1 hm with rfl | hm
    · exact (h.2.2 hq g hg).1 rfl
    · exact (h.2.2 hq g hg).2 hm
  · have := h.2.1.2.1.blk_lt hq g hg
    omega
  · have := h.2.1.2.1.blk_lt hq g hg
    have := hA g hm
    omega
end
/-- A new table and a new row. -/
theorem two_new {w w1 w2 : World} {p : Nat} {A : Option Addr} {c : Nat} {A5 : Option Addr} {c5 : Nat} {k : List Ty} (h : Made w w1 p A c k) (hb : Back w1 w2 A5 c5 k) (hf : ∀ g ∈ blk A5, w1.heap.size ≤ g) : Two w w2 p A c A5 c5 k k :=
  ⟨h.later hb.2.2, hb.before h.2.2.2, fun hq g hg => ⟨fun e => by have := h.1.head.lt; have := hf g hg; omega, fun hm => by have := h.1.blk_lt g hm; have := hf g hg; omega⟩⟩
end Go.Proofs.Ytkplagnmdjaajaa.Tb
