/-
  The contracts of New, Put and Drop.
-/
import Derived.Test.YtfdombfdgpclcaaGreatDoorSpEnds
import Derived.Test.YtfdombfdgpclcaaGreatDoorSpLay
import Derived.Test.YtfdombfdgpclcaaGreatDoorSpGap
namespace Go.Proofs.YtfdombfdgpclcaaGreatDoor.Sp
open Go.RowKit Go.Proofs.YtfdombfdgpclcaaGreatDoor.Ar Go.Proofs.YtfdombfdgpclcaaGreatDoor.Sh Go.Sort
open Go.Proofs.YtfdombfdgpclcaaGreatDoor.Hd (Hd Fields cells4 free4 ofL of_tab)
open Go.Proofs.YtfdombfdgpclcaaGreatDoor.Tb (Ty Tab blk cells3 sizeE)
open Go.Proofs.YtfdombfdgpclcaaGreatDoor.Bt (Bv atI prevO nextO prev_ok next_ok has_ok hasV)
open Go.Proofs.YtfdombfdgpclcaaGreatDoor.Wd (Table)
set_option linter.unusedVariables false

theorem near_nil : Near [] := fun c hc => by cases hc
set_option maxRecDepth 100000 in
theorem new_nil (n : Int) (w : World) : Calls Tryz.prog 7 #[.int .i64 n, .pointer none] w fun e w' => e = .returned (.tuple #[.pointer none, .int .i64 1]) ∧ w = w' := by
  go_enter Tryz.func7, Tryz.ntmps7
  go_wp2_with fail
  go_ret2
  exact ⟨rfl, rfl⟩
set_option maxRecDepth 100000 in
theorem new_no (n : Int) (hn : mayB n = false) (tp : Nat) (w : World) : Calls Tryz.prog 7 #[.int .i64 n, .pointer (some ⟨tp, 0, none⟩)] w fun e w' => e = .returned (.tuple #[.pointer none, .int .i64 2]) ∧ w = w' := by
  have H := Lib.hid (new_bad n hn w)
  clear hn
  go_enter Tryz.func7, Tryz.ntmps7
  go_wp2_with fail
  refine H.out.mono ?_
  rintro e w1 ⟨rfl, rfl⟩
  go_wp2_with fail
  go_ret2
  exact ⟨rfl, rfl⟩
/-- The words and bits of a new space. -/
def newW (n : Nat) : List Int := becomeW (List.replicate n 0) 0 [] (gran (List.replicate n 0))
def newB (n : Nat) : List Bool := becomeB (List.replicate (gran (List.replicate n 0)).toNat false) 0 [] (gran (List.replicate n 0))
set_option maxRecDepth 100000 in
set_option maxHeartbeats 1000000 in
theorem new_yes (n : Nat) (hn : mayB (n : Int) = true) {w : World} {tp : Nat} {A : Option Addr} {c : Nat} {l : List Ty} (hF : Fields w) (hTb : Table w) (hT : Tab w tp A c l) :
    Calls Tryz.prog 7 #[.int .i64 (n : Int), .pointer (some ⟨tp, 0, none⟩)] w fun e w' => ∃ s : Ids, e = .returned (.tuple #[.pointer (some ⟨s.sp, 0, none⟩), .int .i64 0]) ∧ s.tp = tp ∧ Spc w' s l (newW n) (newB n) ∧ Kept [] w w' ∧ ∀ i ∈ s.turn, w.heap.size ≤ i := by
  have H := Lib.hid (new_ok n hn w)
  have HF := Lib.hid hF
  have HTb := Lib.hid hTb
  have HT := Lib.hid hT
  have HL : Hid ((List.replicate n (0 : Int)).length ≤ 65536) := Lib.hid (by have := ((mayB_iff _).1 hn).2.1; rw [List.length_replicate]; omega)
  clear hn hF hTb hT
  go_enter Tryz.func7, Tryz.ntmps7
  go_wp2_with fail
  refine H.out.mono ?_
  rintro e w1 ⟨p, q, rfl, hp, hq, ha, hk⟩
  have HB := Lib.hid (bare_ok ha (HT.out.keep0 hk) (Wm.zeros n))
  have HK := Lib.hid hk
  clear hk ha H
  go_wp2_with fail
  refine HB.out.mono ?_
  rintro e w2 ⟨sp, bp, bq, rfl, hS, hk2, hbq⟩
  have hk02 := HK.out.trans hk2
  have hturn : ∀ i ∈ Ids.turn ⟨sp, p, q, tp, A, c, bp, bq⟩, w.heap.size ≤ i := by
    intro i hi
    have := HK.out.more
    simp [Ids.turn] at hi
    omega
  have hG : Glob w2 ⟨sp, p, q, tp, A, c, bp, bq⟩ := by
    have hg0 : Table w2 := fun i hi => by
      have hc := HTb.out i hi
      have hlt : 1 < w.heap.size := by
        rcases Nat.lt_or_ge (1) w.heap.size with k | k
        · exact k
        · exfalso
          have hn : w.heap[1]? = none := Array.getElem?_eq_none k
          simp [World.cell?, hn] at hc
      rw [World.cell?_of_block (w := w) (hk02.old _ hlt (by simp))]
      exact hc
    refine ⟨HF.out.keep0 hk02, hg0, fun hm => ?_, fun hm => ?_⟩
    · have := hturn _ hm
      have := HF.out.lt
      omega
    · have h1 := hturn _ hm
      have hc := HTb.out 0 (by omega)
      have hn : w.heap[1]? = none := Array.getElem?_eq_none h1
      simp [World.cell?, hn] at hc
  have hgr : 0 ≤ gran (List.replicate n 0) ∧ gran (List.replicate n 0) ≤ 32768 := by have := HL.out; unfold gran; omega
  have HGr := Lib.hid (granules_ok hS)
  have HBe := Lib.hid (become_ok hG hS 0 (gran (List.replicate n 0)) (by omega) (by omega) hgr.1 (by omega) none 0 [] (Seen.nil _ _) (fun g o e => by cases e) near_nil (by simp))
  have HK2 := Lib.hid hk02
  have HTu := Lib.hid hturn
  clear hS hk2 hk02 hturn hG HB
  go_wp2_with fail
  refine HGr.out.mono ?_
  rintro e w3 ⟨rfl, rfl⟩
  go_wp2_with fail
  refine HBe.out.mono ?_
  rintro e w4 ⟨⟨v4, rfl⟩, hS4, hk4⟩
  have HS4 := Lib.hid hS4
  have HK4 := Lib.hid (HK2.out.forget hk4 HTu.out)
  clear hS4 hk4 HBe
  go_wp2_with fail
  go_ret2
  exact ⟨⟨sp, p, q, tp, A, c, bp, bq⟩, rfl, rfl, HS4.out, HK4.out, HTu.out⟩
section
variable {w : World} {s : Ids} {l : List Ty} {ws : List Int} {bs : List Bool}
/-- What Drop makes of words and bits. -/
def dropW (ws : List Int) (bs : List Bool) (g : Int) : List Int := becomeW ws (prevEndV bs ws g) [] (nextStartV bs ws g)
def dropB (ws : List Int) (bs : List Bool) (g : Int) : List Bool := becomeB bs (prevEndV bs ws g) [] (nextStartV bs ws g)
theorem prevEndV_bound (h : Spc w s l ws bs) (g : Int) : 0 ≤ prevEndV bs ws g ∧ prevEndV bs ws g ≤ 17000000 := by
  have hb := prevO_bound bs (g - 1)
  have hz := hdH_sz ws (atI (prevO bs (g - 1)))
  have := h.few
  unfold prevEndV
  split <;> omega
end
end Go.Proofs.YtfdombfdgpclcaaGreatDoor.Sp
