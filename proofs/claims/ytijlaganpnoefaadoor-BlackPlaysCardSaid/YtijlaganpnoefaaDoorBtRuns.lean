/-
  The contracts of runEnd and Runs.
-/
import Derived.Test.YtijlaganpnoefaaDoorBtSet
import Derived.Test.YtijlaganpnoefaaDoorRunRow
import Derived.OwnWalk
namespace Go.Proofs.YtijlaganpnoefaaDoor.Bt
open Go.RowKit Go.Proofs.YtijlaganpnoefaaDoor.Ar Go.Proofs.YtijlaganpnoefaaDoor.Wd
set_option linter.unusedVariables false

/-- The bit just behind the run that has the bit a. -/
def endV (bs : List Bool) (a : Nat) : Nat := (nextO bs a false).getD bs.length
theorem nextO_some {bs : List Bool} {i : Nat} {st : Bool} {x : Nat} (h : nextO bs i st = some x) : i ≤ x ∧ x < bs.length ∧ bit bs x = st ∧ ∀ j, i ≤ j → j < x → bit bs j = !st := by
  unfold nextO at h
  rw [Int.toNat_natCast] at h
  obtain ⟨a, b, c, d⟩ := nextV_some h
  refine ⟨a, by omega, by simpa using c, fun j h1 h2 => ?_⟩
  have := d j h1 h2
  cases hb : bit bs j <;> cases st <;> simp_all
theorem nextO_none {bs : List Bool} {i : Nat} {st : Bool} (h : nextO bs i st = none) : ∀ j, i ≤ j → j < bs.length → bit bs j = !st := by
  unfold nextO at h
  rw [Int.toNat_natCast] at h
  intro j h1 h2
  have := nextV_no h j h1 (by omega)
  cases hb : bit bs j <;> cases st <;> simp_all
theorem endV_spec {bs : List Bool} {a : Nat} (ha : a < bs.length) (hb : bit bs a = true) : a < endV bs a ∧ endV bs a ≤ bs.length ∧ bit bs (endV bs a) = false ∧ ∀ j, a ≤ j → j < endV bs a → bit bs j = true := by
  unfold endV
  cases h : nextO bs a false with
  | none =>
    refine ⟨ha, Nat.le_refl _, bit_out _ _ (Nat.le_refl _), fun j h1 h2 => ?_⟩
    exact nextO_none h j h1 h2
  | some x =>
    obtain ⟨h1, h2, h3, h4⟩ := nextO_some h
    refine ⟨?_, Nat.le_of_lt h2, h3, fun j j1 j2 => h4 j j1 j2⟩
    show a < x
    rcases Nat.lt_or_ge a x with hlt | hge
    · exact hlt
    · rw [show x = a by omega, hb] at h3
      cases h3
theorem runEnd_ok (bs : List Bool) (p q : Nat) (w : World) (hv : Bv w p q bs) (hT : Table w) (a : Nat) (ha : a ≤ 65536) :
    Calls Tryd.prog 43 #[.pointer (some ⟨p, 0, none⟩), .int .i64 a] w fun e w' => e = .returned (.int .i64 ((endV bs a : Nat) : Int)) ∧ Kept [] w w' := by
  have hn := nextClear_ok bs p q w hv hT a (by omega) (by omega)
  have hV := hv
  have hsz : ∀ w', Kept [] w w' → w'.cell? ⟨p, 0, none⟩ = some (.int .i64 (bs.length : Nat)) := fun w' hk => by
    obtain ⟨ws, hV, _⟩ := hv
    exact (hV.keep0 hk).size
  unfold endV
  cases h : nextO bs a false with
  | none =>
    rw [h] at hn
    have Hn : Hid (Calls Tryd.prog 53 #[.pointer (some ⟨p, 0, none⟩), .int .i64 (a : Int)] w fun e w' => e = .returned (.tuple #[.int .i64 0, .bool false]) ∧ Kept [] w w') := Lib.hid hn
    have Hs := Lib.hid hsz
    clear hn hsz hv hT h hV
    go_enter Tryd.func43, Tryd.ntmps43
    go_wp2_with fail
    refine (Hn.out).mono ?_
    rintro e w' ⟨rfl, hk⟩
    have hc := Hs.out w' hk
    have Hk := Lib.hid hk
    clear hk
    go_wp2_with fail
    go_ret
    exact ⟨rfl, Hk.out⟩
  | some x =>
    rw [h] at hn
    have Hn : Hid (Calls Tryd.prog 53 #[.pointer (some ⟨p, 0, none⟩), .int .i64 (a : Int)] w fun e w' => e = .returned (.tuple #[.int .i64 (x : Nat), .bool true]) ∧ Kept [] w w') := Lib.hid hn
    clear hn hsz hv hT h hV
    go_enter Tryd.func43, Tryd.ntmps43
    go_wp2_with fail
    refine (Hn.out).mono ?_
    rintro e w' ⟨rfl, hk⟩
    have Hk := Lib.hid hk
    clear hk
    go_wp2_with fail
    go_ret
    exact ⟨rfl, Hk.out⟩

/-- A slice value of the call's own. -/
def FreshV (w : World) (v : Value) : Prop := v.ownBlock = none ∨ ∃ b, v.ownBlock = some b ∧ w.heap.size ≤ b
/-- What Runs hands back. -/
def RunsPost (w : World) (bs : List Bool) (e : Ending) (w' : World) : Prop := ∃ v, e = .returned v ∧ OwnR w' v (runsV bs) ∧ FreshV w v ∧ Kept [] w w'
def RunsRel (w : World) (bs : List Bool) (l at' is : Value) (wr : World) : Prop :=
  ∃ e : Nat, e ≤ bs.length ∧ (e = 0 ∨ bit bs e = false) ∧ at' = .int .i64 (atI (nextO bs e true)) ∧ is = .bool (nextO bs e true).isSome ∧ OwnR wr l (runsTo bs e) ∧ FreshV w l ∧ Kept [] w wr
def runsLeft (n : Nat) (at' is : Value) : Nat := match is with | .bool true => n + 1 - (intOf at').toNat | _ => 0

set_option maxHeartbeats 1000000 in
theorem runs_ok (bs : List Bool) (p q : Nat) (w : World) (hv : Bv w p q bs) (hT : Table w) :
    Calls Tryd.prog 35 #[.pointer (some ⟨p, 0, none⟩)] w (RunsPost w bs) := by
  have hfew : bs.length ≤ 65536 := let ⟨_, hV, _⟩ := hv; hV.few
  have Hn := Lib.hid (fun w' (hk : Kept [] w w') (i : Nat) (hi : i ≤ 65536) => next_ok bs p q w' (hv.keep0 hk) (tableKeep hT hk) i (by omega) (by omega))
  have He := Lib.hid (fun w' (hk : Kept [] w w') (i : Nat) (hi : i ≤ 65536) => runEnd_ok bs p q w' (hv.keep0 hk) (tableKeep hT hk) i hi)
  clear hv hT
  go_enter Tryd.func35, Tryd.ntmps35
  go_wp2_with fail
  refine (Hn.out w (Kept.refl _ _) 0 (by omega)).mono ?_
  rintro e w1 ⟨rfl, hk1⟩
  have HR : Hid (RunsRel w bs (.slice none 0 0) (.int .i64 (atI (nextO bs (0 : Nat) true))) (.bool (nextO bs (0 : Nat) true).isSome) w1) := Lib.hid ⟨0, Nat.zero_le _, .inl rfl, rfl, rfl, OwnR.nil _, .inl rfl, hk1⟩
  clear hk1
  generalize atI (nextO bs (0 : Nat) true) = a0 at *
  generalize (nextO bs (0 : Nat) true).isSome = s0 at *
  go_wp2_with fail
  go_loopw [3, 4, 5] (fun l at' is wr => Hid (RunsRel w bs l at' is wr)) (fun l at' is _ => runsLeft bs.length at' is)
  case atStart => exact HR
  case round =>
    obtain ⟨e, he, hb, rfl, rfl, hO, hF, hk⟩ := hrel.out
    clear hrel
    have HO := Lib.hid hO
    have HF := Lib.hid hF
    have Hk := Lib.hid hk
    clear hO hF hk
    cases hn : nextO bs e true with
    | none =>
      have hall := Lib.hid (nextO_none hn)
      have hend : Hid (runsTo bs e = runsV bs) := Lib.hid (runsTo_clear he hall.out).symm
      clear hn
      simp only [Option.isSome_none]
      go_wp2_with fail
      go_ret
      exact ⟨_, rfl, by rw [← hend.out]; exact HO.out, HF.out, Hk.out⟩
    | some a =>
      obtain ⟨h1, h2, h3, h4⟩ := nextO_some hn
      have H4 := Lib.hid h4
      have H3 := Lib.hid h3
      clear h4 h3 hn
      simp only [Option.isSome_some]
      show Code.wp _ _ _ _ _
      have Ha : atI (some a) = ((a : Nat) : Int) := rfl
      rw [Ha]
      clear Ha
      have hsp := endV_spec h2 H3.out
      obtain ⟨b, hbe⟩ : ∃ b, b = endV bs a := ⟨_, rfl⟩
      have He1 := Lib.hid (He.out wr Hk.out a (by omega))
      rw [← hbe] at He1 hsp
      have hab := hsp.1
      have hbn := hsp.2.1
      have hbf := Lib.hid hsp.2.2.1
      have hrs : Hid (runsTo bs b = runsTo bs e ++ [(a, b - a)]) := Lib.hid (by
        rw [runsTo_set hab ?_ hsp.2.2.2, runsTo_clear h1 H4.out]
        by_cases h0 : a = e
        · subst h0
          rcases hb with hb | hb
          · exact .inl hb
          · rw [H3.out] at hb; cases hb
        · exact .inr (H4.out (a - 1) (by omega) (by omega)))
      have hlen := runsTo_length bs e
      have Hb := Lib.hid hb
      clear hbe hsp hb
      go_wp2_with fail
      refine (He1.out).mono ?_
      rintro e1 w2 ⟨rfl, hk2⟩
      have Hk2 := Lib.hid (Hk.out.trans hk2)
      have HO2 := Lib.hid (HO.out.keep0 hk2)
      have hB := Has.new w2 64 [.int .i64 (a : Int), .int .i64 ((b : Int) - (a : Int))]
      have h0 : (w2.alloc (.cells #[.int .i64 (a : Int), .int .i64 ((b : Int) - (a : Int))] 64)).cell? ⟨w2.heap.size, 0, none⟩ = some (.int .i64 ((a : Nat) : Int)) := hB.cell 0
      have h1' : (w2.alloc (.cells #[.int .i64 (a : Int), .int .i64 ((b : Int) - (a : Int))] 64)).cell? ⟨w2.heap.size, 1, none⟩ = some (.int .i64 ((b - a : Nat) : Int)) := by
        rw [show ((b - a : Nat) : Int) = (b : Int) - (a : Int) by omega]
        exact hB.cell 1
      have hka : Kept [] w2 (w2.alloc (.cells #[.int .i64 (a : Int), .int .i64 ((b : Int) - (a : Int))] 64)) := (Kept.refl [] w2).alloc _
      have HO3 := Lib.hid (HO2.out.keep0 hka)
      have H0 := Lib.hid h0
      have H1 := Lib.hid h1'
      have Hka := Lib.hid (Hk2.out.trans hka)
      clear hk2 hB h0 h1' hka
      generalize hrs0 : runsTo bs e = rs at *
      go_wp2_with (at_builtin; (refine append_run rfl (.tmp 16) (.tmp 22) rfl u3 rs rfl HO3.out w2.heap.size 1 (a, b - a) rfl H0.out H1.out (by omega) ?_))
      intro v' w3 hO hG hV
      have hk3 : Kept [] w w3 := own_grown Hka.out HF.out hG
      rw [← World.size_alloc w2 (.cells #[.int .i64 (a : Int), .int .i64 ((b : Int) - (a : Int))] 64)] at hV
      have hF3 := own_fresh Hka.out HF.out hV
      rw [← hrs.out] at hO
      have Hk3 := Lib.hid hk3
      have HO4 := Lib.hid hO
      have HF3 := Lib.hid hF3
      have Hn3 := Lib.hid (Hn.out w3 hk3 b (by omega))
      clear hk3 hO hF3 hG hV H0 H1 HO3 Hka HO2 Hk2
      go_wp2_with fail
      refine (Hn3.out).mono ?_
      rintro e4 w4 ⟨rfl, hk4⟩
      have HR4 : Hid (RunsRel w bs v' (.int .i64 (atI (nextO bs (b : Nat) true))) (.bool (nextO bs (b : Nat) true).isSome) w4) :=
        Lib.hid ⟨b, hbn, .inr hbf.out, rfl, rfl, HO4.out.keep0 hk4, HF3.out, Hk3.out.trans hk4⟩
      have hm : runsLeft bs.length (.int .i64 (atI (nextO bs (b : Nat) true))) (.bool (nextO bs (b : Nat) true).isSome) < runsLeft bs.length (.int .i64 ((a : Nat) : Int)) (.bool true) := by
        cases hn2 : nextO bs (b : Nat) true with
        | none =>
          show 0 < bs.length + 1 - (intOf (.int .i64 ((a : Nat) : Int))).toNat
          simp [intOf]
          omega
        | some y =>
          have hy := nextO_some hn2
          show bs.length + 1 - (intOf (.int .i64 ((y : Nat) : Int))).toNat < bs.length + 1 - (intOf (.int .i64 ((a : Nat) : Int))).toNat
          simp [intOf]
          omega
      have Hm := Lib.hid hm
      clear hk4 hm
      generalize atI (nextO bs (b : Nat) true) = a1 at *
      generalize (nextO bs (b : Nat) true).isSome = s1 at *
      go_wp2_with fail
      go_roundw
      case rel => exact HR4
      case measure => exact Hm.out
theorem runs_nil (w : World) :
    Calls Tryd.prog 35 #[.pointer none] w fun e w' => e = .returned (.slice none 0 0) ∧ Kept [] w w' := by
  have Hn := Lib.hid (next_nil w 0 (by omega) (by omega))
  go_enter Tryd.func35, Tryd.ntmps35
  go_wp2_with fail
  refine (Hn.out).mono ?_
  rintro e w1 ⟨rfl, hk1⟩
  have Hk := Lib.hid hk1
  clear hk1
  go_wp2_with fail
  go_loopw [3, 4, 5] (fun l at' is wr => l = .slice none 0 0 ∧ is = .bool false ∧ w1 = wr) (fun l at' is _ => 0)
  case atStart => exact ⟨rfl, rfl, rfl⟩
  case round =>
    obtain ⟨rfl, rfl, rfl⟩ := hrel
    go_wp2_with fail
    go_ret
    exact ⟨rfl, Hk.out⟩
end Go.Proofs.YtijlaganpnoefaaDoor.Bt
