/-
  What TableStays carries: a table of its own, and beside it a row of types that it appends to.
-/
import Derived.Test.YtkplagnmdjaajaaTbCodes
namespace Go.Proofs.Ytkplagnmdjaajaa.Tb
open Go.RowKit Go.Proofs.Ytkplagnmdjaajaa.Ar Go.Maps
set_option linter.unusedVariables false

/-- A table with types k, a row with types q, that share nothing. -/
def Inv (w wr : World) (p : Nat) (A : Option Addr) (c : Nat) (v : Value) (k q : List Ty) : Prop := Made w wr p A c k ∧ Own wr v q ∧ Fresh w v ∧ ∀ g, v.ownBlock = some g → g ∉ blk A
theorem Tab.blk_lt {w : World} {p : Nat} {A : Option Addr} {c : Nat} {l : List Ty} (h : Tab w p A c l) : ∀ g ∈ blk A, g < w.heap.size := fun g hg => h.own.lt g (own_blk A _ _ g hg)
section
variable {w wr w2 : World} {p : Nat} {A : Option Addr} {c : Nat} {v : Value} {k q : List Ty}
theorem Inv.later (h : Inv w wr p A c v k q) (kk : Kept [] wr w2) : Inv w w2 p A c v k q := ⟨h.1.later kk, h.2.1.keep0 kk, h.2.2.1, h.2.2.2⟩
theorem Inv.added {x : Ty} {e : Ending} (h : Inv w wr p A c v k q) (hp : AddPost wr p A k x e w2) :
    ∃ A' c', e = .returned (.tuple #[.int .i64 (addN k x), .int .i64 (addE k x)]) ∧ Inv w w2 p A' c' v (addL k x) q := by
  obtain ⟨A', c', he, hm⟩ := h.1.added hp
  obtain ⟨A2, c2, he2, h1, h2, h3⟩ := hp
  obtain ⟨A', c', he, hm⟩ : ∃ A' c', e = .returned (.tuple #[.int .i64 (addN k x), .int .i64 (addE k x)]) ∧ (Made w w2 p A' c' (addL k x) ∧ ∀ g ∈ blk A', g ∈ blk A ∨ wr.heap.size ≤ g) :=
    ⟨A2, c2, he2, ⟨h1, h.1.2.1, fun g hg => (h3 g hg).elim (h.1.2.2.1 g) fun hh => Nat.le_trans h.1.2.2.2.more hh, h.1.2.2.2.forget h2 fun i hi => by
      rcases List.mem_cons.1 hi with rfl | hi
      · exact h.1.2.1
      · exact h.1.2.2.1 i hi⟩, h3⟩
  refine ⟨A', c', he, hm.1, h.2.1.kept h2 fun g hg e => ?_, h.2.2.1, fun g hg hb => ?_⟩
  · rcases List.mem_cons.1 hg with rfl | hg
    · exact (h.2.1.block_type h.1.1.head (by decide)) e
    · exact h.2.2.2 g e hg
  · rcases hm.2 g hb with hb | hb
    · exact h.2.2.2 g hg hb
    · have := h.2.1.lt g hg
      omega
theorem Inv.push {v' : Value} {q' : List Ty} (h : Inv w wr p A c v k q) (hO : Own w2 v' q') (hg : wr.grownBy w2 v.ownBlock) (hb : v'.ownBlock = v.ownBlock ∨ v'.ownBlock = some wr.heap.size) : Inv w w2 p A c v' k q' := by
  have kk : Kept v.ownBlock.toList wr w2 := (Kept.refl _ wr).grown hg fun g e => .inl (by rw [e]; simp)
  have hT : Tab w2 p A c k := h.1.1.kept kk (fun hp => (h.2.1.block_type h.1.1.head (by decide)) (by simpa using hp)) (fun g hg e => h.2.2.2 g (by simpa using hg) (blk_own e))
  refine ⟨⟨hT, h.1.2.1, h.1.2.2.1, ?_⟩, hO, own_fresh h.1.2.2.2 h.2.2.1 hb, fun g hg hm => ?_⟩
  · exact own_grown h.1.2.2.2 h.2.2.1 hg
  · rcases hb with hb | hb
    · exact h.2.2.2 g (by rw [← hb]; exact hg) hm
    · rw [hb] at hg
      injection hg with hg
      have := h.1.1.blk_lt g hm
      omega
theorem Inv.form (h : Inv w wr p A c v k q) : ∃ A' c', v = .slice A' q.length c' := by
  rcases h.2.1.form with ⟨rfl, rfl⟩ | ⟨g, cap, rfl, _⟩
  · exact ⟨none, 0, rfl⟩
  · exact ⟨_, _, rfl⟩
end
/-- A type laid into a row that a call made: the row's cells are others, nothing else has turned. -/
def Raw (W3 wr : World) (v : Value) (n : Nat) : Prop := (∃ xs, wr.ownsRow 0 30 3 v n xs) ∧ Kept [] W3 wr
theorem raw_cells {wr : World} {B n c k : Nat} {xs : List Value} (h : wr.ownsRow 0 30 3 (.slice (some ⟨B, 0, none⟩) n c) n xs) (hk : k < n) :
    (∃ a0 a1 a2, wr.cell? ⟨B, k * 3, none⟩ = some a0 ∧ wr.cell? ⟨B, k * 3 + 1, none⟩ = some a1 ∧ wr.cell? ⟨B, k * 3 + 2, none⟩ = some a2) ∧ wr.frozen? ⟨B, k * 3, none⟩ = false ∧ wr.frozen? ⟨B, k * 3 + 1, none⟩ = false ∧ wr.frozen? ⟨B, k * 3 + 2, none⟩ = false := by
  have hl : xs.length = n * 3 := h.1
  refine ⟨⟨xs[k * 3]'(by omega), xs[k * 3 + 1]'(by omega), xs[k * 3 + 2]'(by omega), ?_, ?_, ?_⟩, h.frozenAt _, h.frozenAt _, h.frozenAt _⟩
  · rw [h.cellAt _ (by omega), List.getElem?_eq_getElem]
  · rw [h.cellAt _ (by omega), List.getElem?_eq_getElem]
  · rw [h.cellAt _ (by omega), List.getElem?_eq_getElem]
theorem raw_put {W3 wr : World} {B n c : Nat} (h : Raw W3 wr (.slice (some ⟨B, 0, none⟩) n c) n) (hB : W3.heap.size ≤ B) (i : Nat) (u : Value) (hi : i < n * 3) (hu : u.oneCell' = true) : Raw W3 (wr.setCell ⟨B, i, none⟩ u) (.slice (some ⟨B, 0, none⟩) n c) n := by
  obtain ⟨⟨xs, hx⟩, hk⟩ := h
  have := hx.stored i u
  exact ⟨⟨_, this.1⟩, hk.setCell _ _ (.inr hB)⟩
end Go.Proofs.Ytkplagnmdjaajaa.Tb
