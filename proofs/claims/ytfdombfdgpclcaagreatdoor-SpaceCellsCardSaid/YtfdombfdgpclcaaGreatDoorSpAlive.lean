/-
  The chapter's example: alive.
-/
import Derived.Test.YtfdombfdgpclcaaGreatDoorSpStep
import Derived.Test.YtfdombfdgpclcaaGreatDoorSpTell
namespace Go.Proofs.YtfdombfdgpclcaaGreatDoor.Sp
open Go.RowKit Go.Proofs.YtfdombfdgpclcaaGreatDoor.Ar Go.Proofs.YtfdombfdgpclcaaGreatDoor.Sh
open Go.Proofs.YtfdombfdgpclcaaGreatDoor.Hd (Hd Fields)
open Go.Proofs.YtfdombfdgpclcaaGreatDoor.Tb (Ty Tab Made NewPost newF sizeE sizeT)
open Go.Proofs.YtfdombfdgpclcaaGreatDoor.Wd (Table)
set_option linter.unusedVariables false

theorem gran_zeros {n : Nat} (h : mayB (n : Int) = true) : gran (List.replicate n 0) = (n : Int) / 2 ∧ 8 ≤ gran (List.replicate n 0) ∧ gran (List.replicate n 0) ≤ 32768 := by
  obtain ⟨h1, h2, _⟩ := (mayB_iff _).1 h
  unfold gran
  rw [List.length_replicate]
  omega
/-- A new space is one gap. -/
def newC (n : Nat) : List Cel := gapL 0 ((n : Int) / 2)
theorem new_snd {n : Nat} (h : mayB (n : Int) = true) (l : List Ty) : Snd (newW n) l (newB n) (newC n) := by
  obtain ⟨g1, g2, g3⟩ := gran_zeros h
  have h2 := ((mayB_iff _).1 h).2.1
  have hl : (List.replicate n (0 : Int)).length ≤ 65536 := by rw [List.length_replicate]; omega
  have hwl : (newW n).length = (List.replicate n (0 : Int)).length := becomeW_length _ _ _ _
  have ht := (become_tiled (l := l) (e := gran (List.replicate n 0)) [] (List.replicate n 0) 0 (Int.le_refl _) (Int.le_refl _) hl (show (0 : Int) ≤ _ by omega)).1
  refine ⟨?_, ?_, ?_, ?_, by rw [hwl]; exact hl⟩
  · rw [gran_eq hwl]
    unfold newC
    rw [← g1]
    exact ht
  · unfold newC
    rw [objs_gapL]
    have ha := become_agree (bs := List.replicate (gran (List.replicate n 0)).toNat false) (a := []) (m := []) (b := []) (cs := []) (f := 0) (e := gran (List.replicate n 0)) (agree_none _) (Int.le_refl _) (by omega) (by rw [List.length_replicate]; omega) (fun c h => by cases h) (fun c h => by cases h) (fun c h => by cases h) (fun c h => by cases h)
    exact ha
  · unfold newB
    rw [becomeB_length, List.length_replicate, gran_eq hwl]
    omega
  · exact neat_gapL _ _
section
variable {w : World}
theorem one_new (n : Nat) (hn : mayB (n : Int) = true) {x : World} {tp : Nat} {A : Option Addr} {c : Nat} {l : List Ty} (hF : Fields x) (hTb : Table x) (hT : Tab x tp A c l) (k : Kept [] w x) :
    Calls Tryz.prog 7 #[.int .i64 (n : Int), .pointer (some ⟨tp, 0, none⟩)] x fun e y => ∃ s : Ids, e = .returned (.tuple #[.pointer (some ⟨s.sp, 0, none⟩), .int .i64 0]) ∧ s.tp = tp ∧ Has1 w y s l (newC n) ∧ Kept [] x y := by
  refine (new_yes n hn hF hTb hT).mono ?_
  rintro e y ⟨s, he, hs, hS, hk, hf⟩
  have hturn : ∀ i ∈ s.turn, w.heap.size ≤ i := fun i hi => Nat.le_trans k.more (hf i hi)
  refine ⟨s, he, hs, ⟨_, _, k.trans hk, hS, ⟨hF.keep0 hk, fun i hi => ?_, fun hm => ?_, fun hm => ?_⟩, new_snd hn l, hturn⟩, hk⟩
  · have hc := hTb i hi
    have hlt : 1 < x.heap.size := by
      rcases Nat.lt_or_ge (1) x.heap.size with k | k
      · exact k
      · exfalso
        have hn : x.heap[1]? = none := Array.getElem?_eq_none k
        simp [World.cell?, hn] at hc
    rw [World.cell?_of_block (w := x) (hk.old _ hlt (by simp))]
    exact hc
  · have := hf _ hm
    have := hF.lt
    omega
  · have h1 := hf _ hm
    have hc := hTb 0 (by omega)
    have hn : x.heap[1]? = none := Array.getElem?_eq_none h1
    simp [World.cell?, hn] at hc
end
end Go.Proofs.YtfdombfdgpclcaaGreatDoor.Sp
