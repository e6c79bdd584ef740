/-
  A set that a law has made itself, carried through the law's walk: what each call makes of it, and what else stays as it was.
-/
import Derived.Test.YtbgonppichdhiaaRnRefFind
namespace Go.Proofs.Ytbgonppichdhiaa.Rn
open Go.RowKit Go.Proofs.Ytbgonppichdhiaa.Ar Go.Proofs.Ytbgonppichdhiaa.Bt Go.Proofs.Ytbgonppichdhiaa.Lk Go.Sort
set_option linter.unusedVariables false

/-- Whatever is no set's lies as it lay. -/
def Others (w w' : World) : Prop := w.heap.size ≤ w'.heap.size ∧ ∀ b, b < w.heap.size → (∀ cs, ¬ Has w b 54 cs) → (∀ cs, ¬ Has w b 52 cs) → w'.heap[b]? = w.heap[b]?
theorem Others.of0 {w w' : World} (k : Kept [] w w') : Others w w' := ⟨k.more, fun b hb _ _ => k.old b hb (by simp)⟩
theorem Others.of {w w' : World} {p : Nat} {ns : List Nd} (h : Rs w p ns) (k : Kept (blocks p ns) w w') : Others w w' := ⟨k.more, fun b hb h1 h2 => k.old b hb fun hm => by
  rcases List.mem_cons.1 hm with rfl | hm
  · exact h1 _ h.head
  · obtain ⟨n, hn, rfl⟩ := List.mem_map.1 hm
    obtain ⟨v, hv⟩ := h.seg.mem n hn
    exact h2 _ hv⟩
theorem Others.trans {a b c : World} (h : Others a b) (k : Others b c) : Others a c := ⟨Nat.le_trans h.1 k.1, fun i hi h1 h2 => by
  have e := h.2 i hi h1 h2
  have g : ∀ t cs, Has b i t cs → Has a i t cs := fun t cs hh => e.symm.trans hh
  exact (k.2 i (Nat.lt_of_lt_of_le hi h.1) (fun cs hh => h1 cs (g _ _ hh)) (fun cs hh => h2 cs (g _ _ hh))).trans e⟩
theorem Others.has {w w' : World} (h : Others w w') {b : Nat} {t : TypeId} {cs : List Value} (hb : Has w b t cs) (h1 : t ≠ 54) (h2 : t ≠ 52) : Has w' b t cs :=
  (h.2 b hb.lt (fun ds hh => Has.block_type hb hh h1 rfl) (fun ds hh => Has.block_type hb hh h2 rfl)).trans hb
theorem Others.ownR {w w' : World} (h : Others w w') {v : Value} {rs : List R} (ho : OwnR w v rs) : OwnR w' v rs := by
  refine ⟨ho.1, ?_⟩
  rcases ho.2 with hn | ⟨g, cap, cur, rfl, hb, hg, rest⟩
  · exact .inl hn
  · refine .inr ⟨g, cap, cur, rfl, hb, ?_, rest⟩
    have hh : Has w g 29 cur.toList := hg
    exact h.has hh (by decide) (by decide)
theorem Others.ref {w w' : World} (h : Others w w') {r p q : Nat} {rs : List R} (hr : RefAt w r p q rs) : RefAt w' r p q rs := by
  obtain ⟨bs, hb, hl, hm⟩ := hr.bits
  exact ⟨h.has hr.head (by decide) (by decide), bs, ⟨h.has hb.head (by decide) (by decide), h.has hb.row (by decide) (by decide), hb.few⟩, hl, hm⟩
/-- The law's own set, with these runs; w0 is the world in which the law began. -/
structure Sx (w0 w : World) (p : Nat) (rs : List R) : Prop where
  set : ∃ ns, Rs w p ns ∧ runsIn ns = rs ∧ ∀ b ∈ blocks p ns, w0.heap.size ≤ b
  fine : Fine 0 rs
  world : Kept [] w0 w
namespace Sx
variable {w0 w w' : World} {p : Nat} {rs : List R}
theorem stay (h : Sx w0 w p rs) (k : Kept [] w w') : Sx w0 w' p rs := ⟨let ⟨ns, a, b, c⟩ := h.set; ⟨ns, a.keep0 k, b, c⟩, h.fine, h.world.trans k⟩
/-- Another object's call: only blocks of another kind have turned. -/
theorem beside {S : List Nat} (h : Sx w0 w p rs) (k : Kept S w w') (h1 : ∀ b ∈ S, w0.heap.size ≤ b) (h2 : ∀ b ∈ S, ∃ t cs, Has w b t cs ∧ t ≠ 54 ∧ t ≠ 52) : Sx w0 w' p rs := by
  obtain ⟨ns, a, b, c⟩ := h.set
  refine ⟨⟨ns, a.kept k fun x hx hS => ?_, b, c⟩, h.fine, h.world.forget k h1⟩
  obtain ⟨t, cs, hh, n1, n2⟩ := h2 x hS
  exact a.other hh n1 n2 hx
theorem now {ns : List Nd} {rs' : List R} (h : Rs w p ns) (hk : Kept [] w0 w) (hb : ∀ b ∈ blocks p ns, w0.heap.size ≤ b) (hn : Now w p ns rs' w') (hf : Fine 0 rs') : Sx w0 w' p rs' ∧ Others w w' := by
  obtain ⟨ns', h1, h2, h3, h4⟩ := hn
  refine ⟨⟨⟨ns', h1, h2, fun b hb' => ?_⟩, hf, hk.forget h3 hb⟩, Others.of h h3⟩
  rcases h4 b hb' with h5 | h5
  · exact hb b h5
  · exact Nat.le_trans hk.more h5
theorem new (w : World) : Calls Try.prog 8 #[] w fun e w' => e = .returned (.pointer (some ⟨w.heap.size, 0, none⟩)) ∧ Sx w w' w.heap.size [] :=
  (new_ok w).mono fun e w' ⟨he, h, hk⟩ => ⟨he, ⟨[], h, rfl, fun b hb => by rcases List.mem_cons.1 hb with rfl | hb; exact Nat.le_refl _; cases hb⟩, trivial, hk⟩
theorem newIn (h : Kept [] w0 w) : Calls Try.prog 8 #[] w fun e w' => e = .returned (.pointer (some ⟨w.heap.size, 0, none⟩)) ∧ Sx w0 w' w.heap.size [] :=
  (new_ok w).mono fun e w' ⟨he, hr, hk⟩ => ⟨he, ⟨[], hr, rfl, fun b hb => by rcases List.mem_cons.1 hb with rfl | hb; exact h.more; cases hb⟩, trivial, h.trans hk⟩
theorem add (h : Sx w0 w p rs) (a n : Int) (a1 : -9223372036854775808 ≤ a) (a2 : a ≤ 9223372036854775807) (n1 : -9223372036854775808 ≤ n) (n2 : n ≤ 9223372036854775807) :
    Calls Try.prog 11 #[.pointer (some ⟨p, 0, none⟩), runV a n] w fun e w' => e = .returned (.int .i64 (addE rs a n)) ∧ Sx w0 w' p (addW rs a n) ∧ Others w w' := by
  obtain ⟨ns, h1, rfl, h3⟩ := h.set
  exact (add_all w p ns h1 h.fine a n a1 a2 n1 n2).mono fun e w' ⟨he, hn⟩ => ⟨he, now h1 h.world h3 hn (addW_fine h.fine a n)⟩
theorem cut (h : Sx w0 w p rs) (a n : Int) (a1 : -9223372036854775808 ≤ a) (a2 : a ≤ 9223372036854775807) (n1 : -9223372036854775808 ≤ n) (n2 : n ≤ 9223372036854775807) :
    Calls Try.prog 12 #[.pointer (some ⟨p, 0, none⟩), runV a n] w fun e w' => e = .returned (.int .i64 (cutE rs a n)) ∧ Sx w0 w' p (cutW rs a n) ∧ Others w w' := by
  obtain ⟨ns, h1, rfl, h3⟩ := h.set
  exact (cut_all w p ns h1 h.fine a n a1 a2 n1 n2).mono fun e w' ⟨he, hn⟩ => ⟨he, now h1 h.world h3 hn (cutW_fine h.fine a n)⟩
theorem list (h : Sx w0 w p rs) : Calls Try.prog 19 #[.pointer (some ⟨p, 0, none⟩)] w fun e w' => ∃ v, e = .returned v ∧ OwnR w' v rs ∧ FreshV w v ∧ Kept [] w w' := by
  obtain ⟨ns, h1, rfl, h3⟩ := h.set
  exact list_ok w _ ns (.inr ⟨p, rfl, h1⟩) h.fine
theorem total (h : Sx w0 w p rs) : Calls Try.prog 21 #[.pointer (some ⟨p, 0, none⟩)] w fun e w' => e = .returned (.int .i64 ((Rn.total rs : Nat) : Int)) ∧ Kept [] w w' := by
  obtain ⟨ns, h1, rfl, h3⟩ := h.set
  exact total_ok w _ ns (.inr ⟨p, rfl, h1⟩) h.fine
theorem first (h : Sx w0 w p rs) (n fr : Int) (n1 : -9223372036854775808 ≤ n) (n2 : n ≤ 9223372036854775807) (f1 : -9223372036854775808 ≤ fr) (f2 : fr ≤ 9223372036854775807) :
    Calls Try.prog 16 #[.pointer (some ⟨p, 0, none⟩), .int .i64 n, .int .i64 fr] w fun e w' => e = .returned (.tuple #[firstR (firstO rs n fr) n, .bool (firstO rs n fr).isSome]) ∧ Kept [] w w' := by
  obtain ⟨ns, h1, rfl, h3⟩ := h.set
  exact first_ok w _ ns (.inr ⟨p, rfl, h1⟩) h.fine n fr n1 n2 f1 f2
theorem of (h : Sx w0 w p rs) (i : Int) :
    Calls Try.prog 14 #[.pointer (some ⟨p, 0, none⟩), .int .i64 i] w fun e w' => e = .returned (.tuple #[ofR (ofO rs i), .bool (ofO rs i).isSome]) ∧ Kept [] w w' := by
  obtain ⟨ns, h1, rfl, h3⟩ := h.set
  exact of_ok w p ns h1 h.fine i
theorem hasN (h : Sx w0 w p rs) (i : Int) :
    Calls Try.prog 23 #[.pointer (some ⟨p, 0, none⟩), .int .i64 i] w fun e w' => e = .returned (.bool (hasI rs i)) ∧ Kept [] w w' := by
  obtain ⟨ns, h1, rfl, h3⟩ := h.set
  exact has_ok w p ns h1 h.fine i
/-- The copy, and what is told of it whatever the old one is played with. -/
theorem copy (h : Sx w0 w p rs) : Calls Try.prog 10 #[.pointer (some ⟨p, 0, none⟩)] w fun e w' => e = .returned (.pointer (some ⟨w.heap.size, 0, none⟩)) ∧ Sx w w' w.heap.size rs ∧ Sx w0 w' p rs := by
  obtain ⟨ns, h1, rfl, h3⟩ := h.set
  exact (copy_ok w p ns h1).mono fun e w' ⟨ms, he, hr, hm, hb, hk⟩ => ⟨he, ⟨⟨ms, hr, hm, fun b hb' => by
    rcases List.mem_cons.1 hb' with rfl | hb'
    · exact Nat.le_refl _
    · obtain ⟨m, hm', rfl⟩ := List.mem_map.1 hb'
      exact hb m hm'⟩, h.fine, hk⟩, h.stay hk⟩
end Sx
theorem valid_small (a n : Nat) (hn : 1 ≤ n) (hv : a + n ≤ 65536) : valid a n = true := (valid_iff _ _).2 (by omega)
end Go.Proofs.Ytbgonppichdhiaa.Rn
