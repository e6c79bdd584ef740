/-
  The contract of Refs: all slots that are references, rising.
-/
import Derived.Test.YtjlofickdlcoeaaKdRef
namespace Go.Proofs.Ytjlofickdlcoeaa.Kd
open Go.RowKit Go.Proofs.Ytjlofickdlcoeaa.Ar Go.Proofs.Ytjlofickdlcoeaa.Ir Go.Maps
set_option linter.unusedVariables false

theorem refsTo_succ (k : Nat) (wd : Int) (mk m : Nat) : refsTo k wd mk (m + 1) = if isRef k wd mk m then refsTo k wd mk m ++ [(m : Int)] else refsTo k wd mk m := by
  unfold refsTo
  rw [List.range_succ, List.filter_append]
  cases h : isRef k wd mk m
  · simp [h]
  · simp [h]
theorem refsTo_length (k : Nat) (wd : Int) (mk m : Nat) : (refsTo k wd mk m).length ≤ m := by
  unfold refsTo
  rw [List.length_map]
  have := List.length_filter_le (isRef k wd mk) (List.range m)
  rwa [List.length_range] at this
/-- All slots that are references. -/
def refsR (k : Nat) (wd : Int) (mk : Nat) (n : Int) : List Int := if err k wd mk n = 0 then refsTo k wd mk (slots k wd n).toNat else []
def Fresh (w : World) (v : Value) : Prop := v.ownBlock = none ∨ ∃ b, v.ownBlock = some b ∧ w.heap.size ≤ b
def RefsPost (w : World) (k : Nat) (wd : Int) (mk : Nat) (n : Int) (e : Ending) (w' : World) : Prop := ∃ v, e = .returned (.tuple #[v, .int .i64 (err k wd mk n)]) ∧ Own w' v (refsR k wd mk n) ∧ Kept [] w w'
set_option maxRecDepth 100000 in
set_option maxHeartbeats 4000000 in
theorem refs_ok (k : Nat) (wd : Int) (mk : Nat) (n : Int) (hk : k < 256) (hm : mk < 18446744073709551616) (w : World) :
    Calls Try.prog 16 #[typV k wd mk, .int .i64 n] w (RefsPost w k wd mk n) := by
  have HL := Lib.hid (fun x => layoutOf_ok k wd mk n hk hm x)
  have hka : ∀ (x : World) (o : Obj), Kept [] x (x.alloc o) := fun x o => (Kept.refl [] x).alloc o
  unfold RefsPost refsR typV layT lay0 at *
  by_cases h : err k wd mk n = 0
  · obtain ⟨i, j, hF⟩ := fns h hm
    obtain ⟨sb0, sb1⟩ := slots_bound h
    have HS := Lib.hid hF.doSl
    have HR := Lib.hid hF.doRf
    have e1 := hF.sl
    have e2 := hF.rf
    have cs := hF.inSl
    have cr := hF.inRf
    unfold fn layV at *
    simp only [h, if_true, e1, e2] at HL ⊢
    clear h hF e1 e2
    generalize mn k = a1 at *
    generalize mx k = a2 at *
    generalize hl k = a3 at *
    obtain ⟨sl, hsl⟩ := Int.eq_ofNat_of_zero_le sb0
    rw [hsl] at HS HR sb0 sb1 ⊢
    rw [Int.toNat_natCast]
    clear hsl sb0
    have hsb : sl ≤ 65536 := by omega
    go_enter Try.func16, Try.ntmps16
    go_wp2_with fail
    refine (HL.out _).mono ?_
    rintro e W1 ⟨rfl, hk1⟩
    have hk2 := Lib.hid ((hka w _).trans hk1)
    clear hk1 HL
    go_wp2_with fail
    refine (HS.out _).mono ?_
    rintro e W2 ⟨rfl, hk3⟩
    have hk4 := Lib.hid ((hk2.out.alloc _).trans hk3)
    have Hl := Lib.hid ((Has.new W1 _ (layL k wd mk n a1 a2 a3 (.func (.func i) #[] #[]) (.func (.func j) #[] #[]))).keep0 hk3)
    clear hk3 hk2 HS
    generalize W1.heap.size = B at *
    go_wp2_with fail
    go_loopw [8, 24] (fun s t wr => ∃ m : Nat, m ≤ sl ∧ t = .int .i64 (m : Int) ∧ Hid (Own wr s (refsTo k wd mk m) ∧ Fresh W2 s ∧ Kept [] W2 wr)) (fun _ t _ => sl - (intOf t).toNat)
    case atStart => exact ⟨0, Nat.zero_le _, rfl, Lib.hid ⟨Own.nil _, .inl rfl, Kept.refl _ _⟩⟩
    case round =>
      obtain ⟨m, hm', rfl, hr⟩ := hrel
      by_cases hlt : m < sl
      · obtain ⟨x0, x1, x2, x3, x4, x5, x6, x7, x8⟩ := cells9 (Hl.out.keep0 hr.out.2.2)
        have HR' := Lib.hid (fun x => HR.out m x (by omega))
        have hstep := refsTo_succ k wd mk m
        have hlen := refsTo_length k wd mk m
        cases hb : isRef k wd mk m with
        | false =>
          rw [hb] at HR' hstep
          rw [if_neg (by decide)] at hstep
          have HE := Lib.hid hstep
          clear hb hstep
          go_wp2_with fail
          refine (HR'.out _).mono ?_
          rintro e W3 ⟨rfl, hk5⟩
          have HN := Lib.hid (show Own W3 u8 (refsTo k wd mk (m + 1)) ∧ Fresh W2 u8 ∧ Kept [] W2 W3 from ⟨by rw [HE.out]; exact hr.out.1.keep0 hk5, hr.out.2.1, hr.out.2.2.trans hk5⟩)
          clear hk5 HR' hr
          go_wp2_with fail
          go_roundw
          case rel => exact ⟨m + 1, by omega, by go_num, HN⟩
          case measure => simp [intOf]; omega
        | true =>
          rw [hb] at HR' hstep
          rw [if_pos rfl] at hstep
          have HE := Lib.hid hstep
          clear hb hstep
          go_wp2_with fail
          refine (HR'.out _).mono ?_
          rintro e W3 ⟨rfl, hk5⟩
          have HO0 := Lib.hid (hr.out.1.keep0 hk5)
          have HK0 := Lib.hid (hr.out.2.2.trans hk5)
          have HF := Lib.hid hr.out.2.1
          clear hk5 HR' hr
          have HK := Lib.hid ((Kept.refl [] W3).alloc (.cells #[.int .i64 (m : Int)] 3))
          have HSe : Hid (Seen (W3.alloc (.cells #[.int .i64 (m : Int)] 3)) (some ⟨W3.heap.size, 0, none⟩) [(m : Int)]) := Row.seen (Has.new W3 3 (ints [(m : Int)]))
          have HO := Lib.hid (HO0.out.keep0 HK.out)
          generalize refsTo k wd mk m = L at *
          go_wp2_with (at_builtin; (refine append_numbers rfl (.tmp 33) (.tmp 35) rfl u8 L rfl HO.out (some ⟨W3.heap.size, 0, none⟩) 1 1 [(m : Int)] rfl rfl (fun h => by cases h) HSe.out (by omega) ?_))
          intro s2 w2 hO2 hG2 hB2
          have hwk2 := HK0.out.trans HK.out
          have hF2 := own_fresh (v' := s2) hwk2 HF.out (by rw [World.size_alloc]; exact hB2)
          have hK2 := own_grown hwk2 HF.out hG2
          have HN := Lib.hid (show Own w2 s2 (refsTo k wd mk (m + 1)) ∧ Fresh W2 s2 ∧ Kept [] W2 w2 from ⟨by rw [HE.out]; exact hO2, hF2, hK2⟩)
          clear hO2 hG2 hB2 hK2 hF2 HK HSe HO hwk2
          go_wp2_with fail
          go_roundw
          case rel => exact ⟨m + 1, by omega, by go_num, HN⟩
          case measure => simp [intOf]; omega
      · obtain rfl : m = sl := by omega
        go_wp2_with fail
        go_ret2
        exact ⟨_, rfl, hr.out.1, hk4.out.trans hr.out.2.2⟩
  · simp only [h, if_false] at HL ⊢
    have he : (err k wd mk n != 0) = true := by rw [bne_iff_ne]; exact h
    generalize err k wd mk n = er at *
    go_enter Try.func16, Try.ntmps16
    go_wp2_with fail
    refine (HL.out _).mono ?_
    rintro e W1 ⟨rfl, hk1⟩
    have hk2 := Lib.hid ((hka w _).trans hk1)
    clear hk1
    go_wp2_with fail
    go_ret2
    exact ⟨_, rfl, Own.nil _, hk2.out.alloc _⟩
end Go.Proofs.Ytjlofickdlcoeaa.Kd
