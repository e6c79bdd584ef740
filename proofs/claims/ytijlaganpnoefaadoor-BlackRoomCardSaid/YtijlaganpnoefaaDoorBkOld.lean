/-
  Stage 12, black: what the walk of BlackPlays has at hand: an old list beside its copy and the document's.
-/
import Derived.Test.YtijlaganpnoefaaDoorBkAlive
import Derived.Test.YtijlaganpnoefaaDoorBkDoes
import Derived.Test.YtijlaganpnoefaaDoorBkLawSame
namespace Go.Proofs.YtijlaganpnoefaaDoor.Bk
open Go.RowKit Go.Proofs.YtijlaganpnoefaaDoor.Ar
set_option linter.unusedVariables false
theorem may12_ok (n : Int) (w : World) : Calls Tryd.prog 10 #[.int .i64 n] w fun e w' => e = .returned (.bool (decide (0 ≤ n ∧ n ≤ 65536))) ∧ w = w' := by
  by_cases h0 : 0 ≤ n
  · by_cases h1 : n ≤ 65536
    · rw [decide_eq_true ⟨h0, h1⟩]
      go_enter Tryd.func10, Tryd.ntmps10
      go_wp2_with fail
      go_ret
      exact ⟨rfl, rfl⟩
    · rw [decide_eq_false (by omega)]
      go_enter Tryd.func10, Tryd.ntmps10
      go_wp2_with fail
      go_ret
      exact ⟨rfl, rfl⟩
  · rw [decide_eq_false (by omega)]
    go_enter Tryd.func10, Tryd.ntmps10
    go_wp2_with fail
    go_ret
    exact ⟨rfl, rfl⟩
section
variable {G : World → Prop} {P : World → World → Nat → List Nat → List Int → Prop} {w x y z : World} {p r q o : Nat} {T S : List Nat} {ls os : List Int}
/-- An old list beside what goes on. -/
structure Old (P : World → World → Nat → List Nat → List Int → Prop) (w x : World) (p : Nat) (T : List Nat) (ls : List Int) (r q : Nat) (o : Nat) (S : List Nat) (os : List Int) : Prop where
  duo : BDuo P w x p T ls r q ls
  old : P w x o S os
  ne : ∀ i ∈ S, i ∉ T ∧ i ≠ r ∧ i ≠ q
theorem Old.copied (C : Ctr G P) (h : BDuo P w x p T ls r q ls) {p' : Nat} {T' : List Nat} (hc : P w y p' T' ls) (k : Kept [] x y) (hf : ∀ i ∈ T', x.heap.size ≤ i) : Old P w y p' T' ls r q p T ls := by
  have hr := h.doc.head.lt
  have hq := h.doc.row.lt
  refine ⟨⟨hc, h.doc.keep0 k, fun hm => by have := hf _ hm; omega, fun hm => by have := hf _ hm; omega, h.fr, h.fq⟩, C.keep0 h.ours k, fun i hi => ?_⟩
  have := (C.fresh h.ours i hi).2
  exact ⟨fun hm => by have := hf _ hm; omega, fun e => h.nr (e ▸ hi), fun e => h.nq (e ▸ hi)⟩
theorem Old.keep0 (C : Ctr G P) (h : Old P w x p T ls r q o S os) (k : Kept [] x y) : Old P w y p T ls r q o S os := ⟨h.duo.keep0 C k, C.keep0 h.old k, h.ne⟩
theorem Old.turned (C : Ctr G P) (h : Old P w x p T ls r q o S os) {S' : List Nat} {os' : List Int} (k : Kept S x y) (hP : P w y o S' os') (ht : ∀ i ∈ S', i ∈ S ∨ x.heap.size ≤ i) : Old P w y p T ls r q o S' os' := by
  have hr := h.duo.doc.head.lt
  have hq := h.duo.doc.row.lt
  refine ⟨⟨C.kept h.duo.ours k (fun i hi hm => (h.ne i hm).1 hi) (fun i hi => (C.fresh h.old i hi).1), h.duo.doc.kept k (fun hm => (h.ne _ hm).2.1 rfl) (fun hm => (h.ne _ hm).2.2 rfl), h.duo.nr, h.duo.nq, h.duo.fr, h.duo.fq⟩, hP, fun i hi => ?_⟩
  rcases ht i hi with h1 | h1
  · exact h.ne i h1
  · exact ⟨fun hm => by have := (C.fresh h.duo.ours i hm).2; omega, by omega, by omega⟩
theorem old_hit (C : Ctr G P) (h : Old P w x p T ls r q o S os) (gs : List Int) (hgs : ∀ g ∈ gs, I64 g) (hl : gs.length ≤ 1000000) :
    Calls Tryd.prog 13 #[.pointer (some ⟨o, 0, none⟩), .slice (some ⟨x.heap.size, 0, none⟩) gs.length gs.length] (x.alloc (.cells (Ir.ints gs).toArray 3)) fun e y => (∃ v, e = .returned (.int .i64 v)) ∧ ∃ S' os', Old P w y p T ls r q o S' os' := by
  have hk : Kept [] x (x.alloc (.cells (Ir.ints gs).toArray 3)) := (Kept.refl [] x).alloc _
  have hb : Ir.Row (x.alloc (.cells (Ir.ints gs).toArray 3)) x.heap.size gs := Has.new x 3 (Ir.ints gs)
  have h1 := h.keep0 C hk
  refine (C.hit gs h1.old (fun y ky => ?_) hl hgs).mono fun e y ⟨he, S', h2, h3, h4⟩ => ⟨⟨_, he⟩, S', _, h1.turned C h3 h2 h4⟩
  exact Ir.Row.seen (Has.kept hb ky fun hm => by have := (C.fresh h.old _ hm).2; omega)
theorem old_turn (C : Ctr G P) (h : Old P w x p T ls r q o S os) :
    Calls Tryd.prog 14 #[.pointer (some ⟨o, 0, none⟩)] x fun e y => (∃ v, e = .returned (.int .i64 v)) ∧ ∃ S' os', Old P w y p T ls r q o S' os' :=
  (C.turn h.old).mono fun e y ⟨he, S', h2, h3, h4⟩ => ⟨⟨_, he⟩, S', _, h.turned C h3 h2 h4⟩
theorem stepL_length (ls : List Int) (d : Int) (gs : List Int) : (stepL ls d gs).length = ls.length := by
  unfold stepL
  split
  · exact hitL_length _ _
  · split
    · exact List.length_map _
    · rfl
theorem duo_new (C : Ctr G P) {n : Nat} (h : P w x p T (List.replicate n 0)) (hb : Bl y (x.heap.size + 1) x.heap.size (List.replicate n 0)) (k : Kept [] x y) : BDuo P w y p T (List.replicate n 0) (x.heap.size + 1) x.heap.size (List.replicate n 0) := by
  have hm := (C.start h).more
  exact ⟨C.keep0 h k, hb, fun hi => by have := (C.fresh h _ hi).2; omega, fun hi => by have := (C.fresh h _ hi).2; omega, by omega, hm⟩
end
end Go.Proofs.YtijlaganpnoefaaDoor.Bk
