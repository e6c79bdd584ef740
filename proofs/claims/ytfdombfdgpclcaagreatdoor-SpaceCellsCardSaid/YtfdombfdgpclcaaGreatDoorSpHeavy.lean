/-
  The law's own guard: Heavy.
-/
import Derived.Test.YtfdombfdgpclcaaGreatDoorSpOpen
import Derived.Test.YtfdombfdgpclcaaGreatDoorGB
namespace Go.Proofs.YtfdombfdgpclcaaGreatDoor.Sp
open Go.RowKit Go.Proofs.YtfdombfdgpclcaaGreatDoor.Ar
set_option linter.unusedVariables false
theorem step_at {w : World} {A : Option Addr} {L : List Stp} (h : Steps w A L) (j : Nat) (hj : j < L.length) : ∃ g f s, A = some ⟨g, f, none⟩ ∧ g < w.heap.size ∧ s ∈ L ∧ w.cell? ⟨g, f + j * 6, none⟩ = some (.int .i64 s.d) ∧ w.cell? ⟨g, f + j * 6 + 1, none⟩ = some (.int .i64 s.g) ∧ w.cell? ⟨g, f + j * 6 + 2, none⟩ = some (.int .i64 s.i) ∧ w.cell? ⟨g, f + j * 6 + 3, none⟩ = some (.int .i64 s.n) ∧ w.cell? ⟨g, f + j * 6 + 4, none⟩ = some (.int .u64 s.u) ∧ w.cell? ⟨g, f + j * 6 + 5, none⟩ = some (.slice s.A s.len s.cap) := by
  obtain ⟨g, f, e, hg, hc⟩ := h (by rintro rfl; cases hj)
  have h1 := hc j L[j] (List.getElem?_eq_getElem hj)
  exact ⟨g, f, L[j], e, hg, List.getElem_mem hj, h1 0 _ rfl, h1 1 _ rfl, h1 2 _ rfl, h1 3 _ rfl, h1 4 _ rfl, h1 5 _ rfl⟩
/-- What is let through. -/
def Light (n : Int) (k m : Nat) : Prop := (n ≤ 600 ∨ 65536 < n) ∧ k ≤ 70 ∧ m ≤ 60
def HeavyPost (n : Int) (k m : Nat) (w : World) (e : Ending) (w' : World) : Prop := (∃ b, e = .returned (.bool b) ∧ (b = false → Light n k m)) ∧ w = w'
set_option maxRecDepth 100000 in
set_option maxHeartbeats 4000000 in
theorem heavy_ok (n : Int) (A1 : Option Addr) (k cap1 : Nat) (A2 : Option Addr) (L : List Stp) (cap2 : Nat) {w : World} (hS : Steps w A2 L) (hok : ∀ s ∈ L, s.ok) (hk : k ≤ maxLen) (hL : L.length ≤ maxLen) :
    Calls Tryz.prog 4 #[.int .i64 n, .slice A1 k cap1, .slice A2 L.length cap2] w (HeavyPost n k L.length w) := by
  have HS := Lib.hid hS
  have HOk := Lib.hid hok
  clear hS hok
  unfold maxLen at hk hL
  go_enter Tryz.func4, Tryz.ntmps4
  go_wp2_with fail
  go_loop [7, 8] (fun v t => ∃ (j : Nat) (m : Int), v = .int .i64 m ∧ t = .int .i64 (j : Int) ∧ j ≤ 100 ∧ j ≤ L.length) (fun _ t => 100 - (intOf t).toNat)
  case atStart => exact ⟨0, 0, rfl, rfl, by omega, by omega⟩
  case round =>
    obtain ⟨j, m, rfl, rfl, hj, hjL⟩ := hrel
    by_cases hlt : j < L.length
    · by_cases h100 : j < 100
      · obtain ⟨g, f, s, rfl, hg, hs, c0, c1, c2, c3, c4, c5⟩ := step_at HS.out j hlt
        have hlen := (HOk.out s hs).2.2.2.2
        unfold maxLen at hlen
        go_wp2_with fail
        go_round
        case rel => exact ⟨j + 1, _, rfl, by go_num, by omega, by omega⟩
        case measure => simp [intOf] <;> omega
      · have h1 : (60 : Nat) < L.length := by omega
        have hb : decide ((j : Int) < 100) = false := decide_eq_false (by omega)
        by_cases q1 : 600 < n
        · by_cases q2 : n ≤ 65536
          · go_wp2_with fail
            go_ret
            exact ⟨⟨_, rfl, fun h => by cases h⟩, rfl⟩
          · by_cases q3 : 70 < k
            · go_wp2_with fail
              go_ret
              exact ⟨⟨_, rfl, fun h => by cases h⟩, rfl⟩
            · by_cases q4 : 60 < L.length
              · go_wp2_with fail
                go_ret
                exact ⟨⟨_, rfl, fun h => by cases h⟩, rfl⟩
              · exact absurd h1 q4
        · by_cases q3 : 70 < k
          · go_wp2_with fail
            go_ret
            exact ⟨⟨_, rfl, fun h => by cases h⟩, rfl⟩
          · by_cases q4 : 60 < L.length
            · go_wp2_with fail
              go_ret
              exact ⟨⟨_, rfl, fun h => by cases h⟩, rfl⟩
            · exact absurd h1 q4
    · have hb : decide (j < L.length) = false := decide_eq_false (by omega)
      by_cases q1 : 600 < n
      · by_cases q2 : n ≤ 65536
        · go_wp2_with fail
          go_ret
          exact ⟨⟨_, rfl, fun h => by cases h⟩, rfl⟩
        · by_cases q3 : 70 < k
          · go_wp2_with fail
            go_ret
            exact ⟨⟨_, rfl, fun h => by cases h⟩, rfl⟩
          · by_cases q4 : 60 < L.length
            · go_wp2_with fail
              go_ret
              exact ⟨⟨_, rfl, fun h => by cases h⟩, rfl⟩
            · go_wp2_with fail
              go_ret
              exact ⟨⟨_, rfl, fun _ => ⟨.inr (by omega), by omega, by omega⟩⟩, rfl⟩
      · by_cases q3 : 70 < k
        · go_wp2_with fail
          go_ret
          exact ⟨⟨_, rfl, fun h => by cases h⟩, rfl⟩
        · by_cases q4 : 60 < L.length
          · go_wp2_with fail
            go_ret
            exact ⟨⟨_, rfl, fun h => by cases h⟩, rfl⟩
          · go_wp2_with fail
            go_ret
            exact ⟨⟨_, rfl, fun _ => ⟨.inl (by omega), by omega, by omega⟩⟩, rfl⟩
end Go.Proofs.YtfdombfdgpclcaaGreatDoor.Sp
