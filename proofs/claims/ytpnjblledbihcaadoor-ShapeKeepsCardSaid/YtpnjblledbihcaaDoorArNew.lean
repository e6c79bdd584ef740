/-
  The contracts of package arena's New and Copy, and of the document's Same and May.
-/
import Derived.Test.YtpnjblledbihcaaDoorArWords
import Derived.Deep.QuietTactic
import Derived.BigQuiet
import Derived.Deep.RegionWith
import Derived.RegionTactic
namespace Go.Proofs.YtpnjblledbihcaaDoor.Ar
open Go.RowKit

/-- The numbers of words that an arena may have. -/
def mayB (n : Int) : Bool := decide (16 ≤ n ∧ n ≤ 65536 ∧ n.tmod 2 = 0)
theorem mayB_iff (n : Int) : mayB n = true ↔ 16 ≤ n ∧ n ≤ 65536 ∧ n.tmod 2 = 0 := by unfold mayB; exact decide_eq_true_iff

theorem new_ok (c : Nat) (hm : mayB (c : Int) = true) (w : World) :
    Calls Tryd.prog 35 #[.int .i64 c] w fun e w' => ∃ p q, e = .returned (.tuple #[.pointer (some ⟨p, 0, none⟩), .int .i64 0]) ∧ w.heap.size ≤ p ∧ w.heap.size ≤ q ∧ Arena w' p q (List.replicate c 0) 0 ∧ Kept [] w w' := by
  obtain ⟨h1, h2, h3⟩ := (mayB_iff _).1 hm
  have hmk := run_make_words c (by omega)
  have hmod : (c : Int) % 2 = 0 := by rw [Int.tmod_eq_emod_of_nonneg (by omega)] at h3; exact h3
  have hfin : ∀ x, x = (w.alloc (.cells (ints (List.replicate c 0)).toArray 22)).alloc (.cells #[.slice (some ⟨w.heap.size, 0, none⟩) c c, .int .u64 0] 103) →
      ∃ p q, (Ending.returned (.tuple #[.pointer (some ⟨w.heap.size + 1, 0, none⟩), .int .i64 0])) = .returned (.tuple #[.pointer (some ⟨p, 0, none⟩), .int .i64 0]) ∧ w.heap.size ≤ p ∧ w.heap.size ≤ q ∧ Arena x p q (List.replicate c 0) 0 ∧ Kept [] w x := by
    rintro _ rfl
    have ha := (Has.new w 22 (ints (List.replicate c 0))).alloc (.cells #[.slice (some ⟨w.heap.size, 0, none⟩) c c, .int .u64 0] 103)
    have hb := Has.new (w.alloc (.cells (ints (List.replicate c 0)).toArray 22)) 103 [.slice (some ⟨w.heap.size, 0, none⟩) c c, .int .u64 0]
    rw [World.size_alloc] at hb
    refine ⟨_, w.heap.size, rfl, by omega, by omega, ⟨?_, ha, by rw [List.length_replicate]; omega⟩, ((Kept.refl [] w).alloc _).alloc _⟩
    rw [List.length_replicate]
    exact hb
  have Hfin := Lib.hid hfin
  have hd : ((c : Int) % 2 != 0) = false := by rw [hmod]; rfl
  clear hfin hm h3
  generalize ints (List.replicate c 0) = M at *
  clear hmod
  go_enter Tryd.func35, Tryd.ntmps35
  go_wp2
  go_ret2
  exact Hfin.out _ rfl
theorem new_bad (c : Int) (hm : mayB c = false) (w : World) :
    Calls Tryd.prog 35 #[.int .i64 c] w fun e w' => e = .returned (.tuple #[.pointer none, .int .i64 2]) ∧ w = w' := by
  have hn : ¬ (16 ≤ c ∧ c ≤ 65536 ∧ c.tmod 2 = 0) := fun hh => by rw [(mayB_iff _).2 hh] at hm; cases hm
  clear hm
  by_cases h1 : c < 16
  · go_enter Tryd.func35, Tryd.ntmps35
    go_wp2
    go_ret2
    exact ⟨rfl, rfl⟩
  · by_cases h2 : 65536 < c
    · go_enter Tryd.func35, Tryd.ntmps35
      go_wp2
      go_ret2
      exact ⟨rfl, rfl⟩
    · have h3 : c % 2 ≠ 0 := fun hh => hn ⟨by omega, by omega, by rw [Int.tmod_eq_emod_of_nonneg (by omega)]; exact hh⟩
      have hd : (c % 2 != 0) = true := by simpa using h3
      clear hn h3
      go_enter Tryd.func35, Tryd.ntmps35
      go_wp2
      go_ret2
      exact ⟨rfl, rfl⟩
/-- What a clone leaves. -/
def Cloned (w x : World) (ws : List Int) (g : Nat) : Prop := w.heap.size ≤ g ∧ g < x.heap.size ∧ Has x g 22 (ints ws) ∧ Kept [] w x
theorem clone_of {p q : Nat} {ws : List Int} {n : Int} {w : World} (h : Arena w p q ws n) (x : World) (hx : Kept [] w x) :
    Calls Tryd.prog 71 #[.slice (some ⟨q, 0, none⟩) ws.length ws.length] x fun e w' => ∃ g, e = .returned (.slice (some ⟨g, 0, none⟩) ws.length ws.length) ∧ w'.cell? ⟨p, 1, none⟩ = some (.int .u64 n) ∧ Cloned w w' ws g := by
  have hA := h.keep0 hx
  have hs : Seen x (some ⟨q, 0, none⟩) ws := fun _ => ⟨q, 0, rfl, hA.row.lt, fun j v hv => by rw [hA.row.cell, Nat.zero_add]; exact hv⟩
  refine (clone_any (some ⟨q, 0, none⟩) ws ws.length h.short x hs).mono ?_
  rintro e w' ⟨g, rfl, hg, hH, hK⟩
  exact ⟨g, rfl, (hA.keep0 hK).c1, Nat.le_trans hx.more hg, hH.lt, hH, hx.trans hK⟩

end Go.Proofs.YtpnjblledbihcaaDoor.Ar
