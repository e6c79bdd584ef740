/-
  Several texts in one: FtOrder, FtPlacesWalk.
-/
import Derived.Test.YtoagghileebokaaGreatDoorG39
import Derived.Test.YtoagghileebokaaGreatDoorG40
import Derived.Test.YtoagghileebokaaGreatDoorG52
import Derived.Test.YtoagghileebokaaGreatDoorG29
import Derived.Test.YtoagghileebokaaGreatDoorG28
/-
  Stage 13, fit: the objects behind a put beside those ahead of it, one by one; in numbers.
-/
namespace Go.Proofs.YtoagghileebokaaGreatDoor.Ft
open Go.RowKit Go.Proofs.YtoagghileebokaaGreatDoor.Ar
open Go.Proofs.YtoagghileebokaaGreatDoor.Sp (Cel objs objs_append tot)
set_option linter.unusedVariables false

theorem take_cel {cs : List Cel} {j : Nat} (h : j < cs.length) : cs.take (j + 1) = cs.take j ++ [cs.getD j Sp.Cel.zero] := by
  rw [List.getD_eq_getElem?_getD, List.getElem?_eq_getElem h]
  exact List.take_succ_eq_append_getElem h
theorem drop_cel {cs : List Cel} {j : Nat} (h : j < cs.length) : cs.drop j = cs.getD j Sp.Cel.zero :: cs.drop (j + 1) := by
  rw [List.getD_eq_getElem?_getD, List.getElem?_eq_getElem h]
  exact List.drop_eq_getElem_cons h
/-- All but the one at g. -/
def nog (g : Int) (l : List Cel) : List Cel := l.filter fun c => decide (c.a ≠ g)
theorem nog_append (g : Int) (a b : List Cel) : nog g (a ++ b) = nog g a ++ nog g b := List.filter_append ..
theorem nog_all {g : Int} {l : List Cel} (h : ∀ d ∈ l, d.a ≠ g) : nog g l = l := List.filter_eq_self.2 fun d hd => by simpa using h d hd
/-- The objects of cs', all but c0 (at g), are those of cs. -/
structure Beside (g : Int) (c0 : Cel) (cs cs' : List Cel) : Prop where
  same : nog g (objs cs') = objs cs
  at0 : ∀ c ∈ objs cs', c.a = g → c = c0
  mem : ∃ c ∈ objs cs', c.a = g
theorem beside_of {g : Int} {c0 : Cel} {cs cs' A B : List Cel} (h0 : c0.a = g) (h1 : objs cs = A ++ B) (h2 : objs cs' = A ++ c0 :: B) (hA : ∀ d ∈ A, d.a ≠ g) (hB : ∀ d ∈ B, d.a ≠ g) : Beside g c0 cs cs' := by
  refine ⟨?_, fun c hc e => ?_, c0, by rw [h2]; simp, h0⟩
  · rw [h2, nog_append, nog_all hA, h1]
    have : nog g (c0 :: B) = nog g B := List.filter_cons_of_neg (by simpa using h0)
    rw [this, nog_all hB]
  · rw [h2] at hc
    rcases List.mem_append.1 hc with hc | hc
    · exact absurd e (hA c hc)
    · rcases List.mem_cons.1 hc with hc | hc
      · exact hc
      · exact absurd e (hB c hc)
/-- i cells of cs' are gone over, k of cs; f: the one at g was among them. -/
def Inv (g : Int) (cs cs' : List Cel) (i k : Nat) (f : Bool) : Prop := nog g (objs (cs'.take i)) = objs (cs.take k) ∧ (f = true ↔ ∃ c ∈ objs (cs'.take i), c.a = g)
section
variable {g : Int} {c0 : Cel} {cs cs' : List Cel} {i k : Nat} {f : Bool}
theorem inv_zero : Inv g cs cs' 0 0 false := by
  refine ⟨rfl, ⟨(fun h => by cases h), ?_⟩⟩
  rintro ⟨c, hc, _⟩
  cases hc
theorem inv_gap (h : Inv g cs cs' i k f) (hi : i < cs'.length) (ht : (cs'.getD i Sp.Cel.zero).h.tg ≠ 1) : Inv g cs cs' (i + 1) k f := by
  have e : objs (cs'.take (i + 1)) = objs (cs'.take i) := by rw [take_cel hi, objs_snoc, if_neg ht]
  unfold Inv
  rw [e]
  exact h
theorem inv_new (hb : Beside g c0 cs cs') (h : Inv g cs cs' i k f) (hi : i < cs'.length) (ht : (cs'.getD i Sp.Cel.zero).h.tg = 1) (ha : (cs'.getD i Sp.Cel.zero).a = g) : Inv g cs cs' (i + 1) k true ∧ cs'.getD i Sp.Cel.zero = c0 := by
  have e : objs (cs'.take (i + 1)) = objs (cs'.take i) ++ [cs'.getD i Sp.Cel.zero] := by rw [take_cel hi, objs_snoc, if_pos ht]
  refine ⟨⟨?_, ⟨fun _ => ⟨_, by rw [e]; simp, ha⟩, fun _ => rfl⟩⟩, hb.at0 _ ?_ ha⟩
  · rw [e, nog_append, h.1]
    have : nog g [cs'.getD i Sp.Cel.zero] = [] := List.filter_cons_of_neg (by simpa using ha)
    rw [this, List.append_nil]
  · have hm : cs'.getD i Sp.Cel.zero ∈ cs' := by
      rw [List.getD_eq_getElem?_getD, List.getElem?_eq_getElem hi]
      exact List.getElem_mem hi
    exact Sp.objs_mem.2 ⟨hm, ht⟩
theorem inv_next (hb : Beside g c0 cs cs') (h : Inv g cs cs' i k f) (hi : i < cs'.length) (ht : (cs'.getD i Sp.Cel.zero).h.tg = 1) (ha : (cs'.getD i Sp.Cel.zero).a ≠ g) : ∃ R, objs (cs.drop k) = cs'.getD i Sp.Cel.zero :: R := by
  have e1 : objs cs' = objs (cs'.take i) ++ objs (cs'.drop i) := by rw [← objs_append, List.take_append_drop]
  have e2 : objs cs = objs (cs.take k) ++ objs (cs.drop k) := by rw [← objs_append, List.take_append_drop]
  have e3 : objs (cs'.drop i) = cs'.getD i Sp.Cel.zero :: objs (cs'.drop (i + 1)) := by
    rw [drop_cel hi]
    exact List.filter_cons_of_pos (by simpa using ht)
  have e4 := hb.same
  rw [e1, nog_append, h.1, e2] at e4
  have e5 := List.append_cancel_left e4
  rw [e3] at e5
  have e6 : nog g (cs'.getD i Sp.Cel.zero :: objs (cs'.drop (i + 1))) = cs'.getD i Sp.Cel.zero :: nog g (objs (cs'.drop (i + 1))) := List.filter_cons_of_pos (by simpa using ha)
  rw [e6] at e5
  exact ⟨_, e5.symm⟩
/-- .. there is one more, .. -/
theorem inv_in {x : Cel} {R : List Cel} (h : objs (cs.drop k) = x :: R) : k < cs.length := by
  rcases Nat.lt_or_ge k cs.length with hk | hk
  · exact hk
  · rw [List.drop_eq_nil_of_le hk] at h
    cases h
/-- .. and where no object stands, go on. -/
theorem inv_skip {x : Cel} {R : List Cel} (h : objs (cs.drop k) = x :: R) (ht : (cs.getD k Sp.Cel.zero).h.tg ≠ 1) : objs (cs.drop (k + 1)) = x :: R ∧ objs (cs.take (k + 1)) = objs (cs.take k) := by
  have hk := inv_in h
  refine ⟨?_, by rw [take_cel hk, objs_snoc, if_neg ht]⟩
  rw [drop_cel hk] at h
  unfold Sp.objs at h ⊢
  rw [List.filter_cons_of_neg (by simpa using ht)] at h
  exact h
theorem inv_hit {x : Cel} {R : List Cel} (h : objs (cs.drop k) = x :: R) (ht : (cs.getD k Sp.Cel.zero).h.tg = 1) : cs.getD k Sp.Cel.zero = x := by
  have hk := inv_in h
  rw [drop_cel hk] at h
  unfold Sp.objs at h
  rw [List.filter_cons_of_pos (by simpa using ht)] at h
  exact (List.cons.inj h).1
theorem inv_step (h : Inv g cs cs' i k f) (hi : i < cs'.length) (hk : k < cs.length) (ht : (cs'.getD i Sp.Cel.zero).h.tg = 1) (ha : (cs'.getD i Sp.Cel.zero).a ≠ g) (he : cs.getD k Sp.Cel.zero = cs'.getD i Sp.Cel.zero) : Inv g cs cs' (i + 1) (k + 1) f := by
  have e : objs (cs'.take (i + 1)) = objs (cs'.take i) ++ [cs'.getD i Sp.Cel.zero] := by rw [take_cel hi, objs_snoc, if_pos ht]
  refine ⟨?_, ?_⟩
  · rw [e, nog_append, h.1, take_cel hk, objs_snoc, he, if_pos ht]
    have : nog g [cs'.getD i Sp.Cel.zero] = [cs'.getD i Sp.Cel.zero] := List.filter_cons_of_pos (by simpa using ha)
    rw [this]
  · rw [e, h.2]
    refine ⟨fun ⟨c, hc, hca⟩ => ⟨c, List.mem_append_left _ hc, hca⟩, fun ⟨c, hc, hca⟩ => ?_⟩
    rcases List.mem_append.1 hc with hc | hc
    · exact ⟨c, hc, hca⟩
    · rw [List.mem_singleton.1 hc] at hca
      exact absurd hca ha
theorem inv_end (hb : Beside g c0 cs cs') (h : Inv g cs cs' cs'.length k f) : f = true := by
  apply h.2.2
  rw [List.take_length]
  exact hb.mem
end
end Go.Proofs.YtoagghileebokaaGreatDoor.Ft

/-
  Stage 13, fit: the law FitPlaces.
-/
namespace Go.Proofs.YtoagghileebokaaGreatDoor.Ft
open Go.RowKit Go.Proofs.YtoagghileebokaaGreatDoor.Ar
open Go.Proofs.YtoagghileebokaaGreatDoor.Sp (Cel Stp objs tot Has0 Ids zero_cells back_own table_ok)
open Go.Proofs.YtoagghileebokaaGreatDoor.Hd (ofL Fields)
open Go.Proofs.YtoagghileebokaaGreatDoor.Tb (Ty sizeT sizeE)
open Go.Proofs.YtoagghileebokaaGreatDoor.Bk (Pb I64)
open Go.Proofs.YtoagghileebokaaGreatDoor.Sp (same_ok run_other no_guard eqC_refl)
set_option linter.unusedVariables false
/-- What is known of an object's size. -/
theorem size_facts {l : List Ty} (hl : l.length ≤ 64) {i n : Int} (he : sizeE l i n = 0) : ∃ S : Nat, sizeT l i n = (S : Int) ∧ 1 ≤ S ∧ S ≤ 40000 ∧ ofL l i n = ⟨1, i, n, (S : Int)⟩ := by
  obtain ⟨sz, ho, s1, s2, _⟩ := Hd.of_facts he hl
  have hoT : ofL l i n = ⟨1, i, n, sizeT l i n⟩ := by unfold Hd.ofL Hd.ofH; rw [if_pos he]
  have hsz : sizeT l i n = sz := congrArg (fun h : Hd.Hd => h.sz) (hoT.symm.trans ho)
  refine ⟨sz.toNat, by omega, by omega, by omega, ?_⟩
  rw [ho]
  congr 1
  omega
set_option maxRecDepth 100000 in
set_option maxHeartbeats 16000000 in
theorem fplaces_walk {w : World} (F : FCtr Wd.Table) (NN : FNil Wd.Table) (c : Cs) (i n : Int) (hi : I64 i) (hn : I64 n) (hF : Fields w) (hTb : Wd.Table w) (hc : c.In w) :
    Calls Tryz.prog 3 #[c.val, .int .i64 i, .int .i64 n] w fun e w' => e = .returned (.bool true) ∧ Kept [] w w' := by
  have k0 : Kept [] w (w.alloc (.cells c.cells.toArray 26)) := (Kept.refl [] w).alloc _
  have hbx := Has.new w 26 c.cells
  have HA := Lib.hid (fun y (k : Kept [] w y) => alive13_ok F NN (hF.keep0 k) (Bt.tableKeep hTb k))
  have HHv := Lib.hid (heavy13_ok c (hc.keep0 k0).s2 (fun s hs => ((hc.keep0 k0).r2 s hs).few) hc.n1 hc.n2)
  have HMd := Lib.hid (fun (hl : c.Lit) y (k : Kept [] w y) => made13_ok c (hF.keep0 k) (Bt.tableKeep hTb k) (hc.keep0 k) hl)
  have HF := Lib.hid F
  have HTb := Lib.hid hTb
  have HBx := Lib.hid (fun y (k : Kept [] (w.alloc (.cells c.cells.toArray 26)) y) => hbx.keep0 k)
  have K0 := Lib.hid k0
  have HA1 := Lib.hid hc.a
  clear hF hTb hc F NN k0 hbx
  obtain ⟨a, A, l, cc, A2, L, c2, A3, gs, c3, bare⟩ := c
  unfold Cs.val at *
  unfold Cs.cells at *
  simp only at *
  go_enter Tryz.func3, Tryz.ntmps3
  go_wp2_with fail
  refine HHv.out.mono ?_
  rintro e y ⟨b, rfl, hb, k⟩
  have KY := Lib.hid (K0.out.trans k)
  cases b with
  | true =>
    clear hb k HMd HHv HBx
    go_wp2_with fail
    refine (HA.out _ KY.out).mono ?_
    rintro e z ⟨rfl, kz⟩
    have K := Lib.hid (KY.out.trans kz)
    clear kz
    go_wp2_with fail
    go_ret
    exact ⟨rfl, K.out⟩
  | false =>
    have hbx := HBx.out y k
    have HBy := Lib.hid (fun z (kz : Kept [] y z) => hbx.keep0 kz)
    have q0 := hbx.cell 0
    have q1 := hbx.cell 1
    have q2 := hbx.cell 2
    have q3 := hbx.cell 3
    have q4 := hbx.cell 4
    simp only [List.getElem?_cons_zero, List.getElem?_cons_succ] at q0 q1 q2 q3 q4
    have HM := Lib.hid (HMd.out (hb rfl) y KY.out)
    clear hb hbx k HMd HHv HBx
    go_wp2_with fail
    refine HM.out.mono ?_
    rintro e z (⟨rfl, kz⟩ | ⟨s, r, cs, vb, bl, T, v, rfl, hB, hta⟩)
    · have KZ := Lib.hid (KY.out.trans kz)
      clear kz HM HBy q0 q1 q2 q3 q4
      go_wp2_with fail
      refine (HA.out _ KZ.out).mono ?_
      rintro e z2 ⟨rfl, k2⟩
      have K := Lib.hid (KZ.out.trans k2)
      clear k2
      go_wp2_with fail
      go_ret
      exact ⟨rfl, K.out⟩
    · simp only at hta hB
      have HB := Lib.hid hB
      obtain ⟨ws, bs, mm⟩ := hB.spc
      have htl : l.length ≤ 64 := mm.spc.tab.len
      have HTab := Lib.hid (fun y2 (k : Kept [] z y2) => Sp.table_ok (mm.spc.keep0 k))
      have HSz := Lib.hid (fun y2 (k : Kept [] z y2) => Tb.size_ok (mm.spc.tab.keep0 k) i n hi.1 hi.2)
      have HI := Lib.hid hi
      have HNn := Lib.hid hn
      clear HM q0 q1 q2 q3 q4 hB mm hi hn hta HBy
      by_cases he : sizeE l i n = 0
      · obtain ⟨S, hS, hS1, hS2, hof⟩ := size_facts htl he
        rw [he, hS] at HSz
        have HE := Lib.hid he
        have HS := Lib.hid hS
        have HOf := Lib.hid hof
        clear he hS hof
        go_wp2_with fail
        refine (HTab.out z (Kept.refl _ _)).mono ?_
        rintro e z0 ⟨rfl, rfl⟩
        go_wp2_with fail
        refine (HSz.out _ (Kept.refl _ _)).mono ?_
        rintro e z1 ⟨rfl, k1⟩
        have B1 := Lib.hid (HB.out.keep0 k1)
        have C1 := Lib.hid (zero_cells B1.out.spc)
        clear k1 HSz HTab HB
        go_wp2_with fail
        refine C1.out.mono ?_
        rintro e z2 ⟨va, rfl, hva, _, k2⟩
        obtain ⟨Aw, cw, rfl, hbw⟩ := back_own (Kept.refl [] z2) hva
        have B2 := Lib.hid (B1.out.keep0 k2)
        have W2 := Lib.hid (show Sp.Own z2 (.slice Aw cs.length cw) cs from hva)
        have C2 := Lib.hid (objects_ok B2.out.spc)
        obtain ⟨ws, N, hT, hN, hcl⟩ := few_of B2.out.spc
        have hgo := gap_obj cs
        have hgb := free_bare hT
        have htN := hT.sum
        have hob := tot_bound hT (Int.le_refl _) cs.length
        rw [List.take_length] at hob
        have HT := Lib.hid hT
        clear hva hbw k2 C1 B1 hT
        go_wp2_with fail
        refine C2.out.mono ?_
        rintro e z3 ⟨rfl, k3⟩
        have B3 := Lib.hid (B2.out.keep0 k3)
        have W3 := Lib.hid (W2.out.keep0 k3)
        have C3 := Lib.hid (HF.out.free (Both.bare B3.out.tb B3.out.spc))
        clear k3 C2 B2 W2
        go_wp2_with fail
        refine C3.out.mono ?_
        rintro e z4 ⟨rfl, k4⟩
        have B4 := Lib.hid (B3.out.keep0 k4)
        have W4 := Lib.hid (W3.out.keep0 k4)
        have C4 := Lib.hid (HF.out.first S B4.out hS1 (by omega))
        clear k4 C3 B3 W3
        cases hf : firstF bl cs S with
        | none =>
          rw [firstV_none hf] at C4
          have C5 := Lib.hid (fun y2 (k : Kept [] z4 y2) => HF.out.place_full i n (B4.out.keep0 k) HI.out HNn.out HE.out (by rw [HS.out]; exact hf))
          clear hf hgo hgb htN hob
          go_wp2_with fail
          refine C4.out.mono ?_
          rintro e z5 ⟨rfl, k5⟩
          have K5 := Lib.hid k5
          clear k5 C4
          go_wp2_with fail
          refine (C5.out _ K5.out).mono ?_
          rintro e z6 ⟨rfl, k6⟩
          have B6 := Lib.hid (B4.out.keep0 (K5.out.trans k6))
          have W6 := Lib.hid (W4.out.keep0 (K5.out.trans k6))
          have C6 := Lib.hid (zero_cells B6.out.spc)
          clear k6 C5 K5 B4 W4
          go_wp2_with fail
          refine C6.out.mono ?_
          rintro e z7 ⟨vb2, rfl, hvb, _, k7⟩
          obtain ⟨Ab, cb, rfl, _⟩ := back_own (Kept.refl [] z7) hvb
          have B7 := Lib.hid (B6.out.keep0 k7)
          have C7 := Lib.hid (same_ok (cap := cw) (cap2 := cb) cs (W6.out.keep0 k7).seen (show Sp.Own z7 (.slice Ab cs.length cb) cs from hvb).seen (by omega))
          clear k7 hvb C6 B6 W6
          go_wp2_with fail
          refine C7.out.mono ?_
          rintro e z8 ⟨rfl, k8⟩
          have KZ := Lib.hid (KY.out.trans (B7.out.spc.kept.trans k8))
          clear k8 C7 B7
          go_wp2_with fail
          refine (HA.out _ KZ.out).mono ?_
          rintro e z9 ⟨rfl, k9⟩
          have K := Lib.hid (KZ.out.trans k9)
          clear k9
          go_wp2_with fail
          go_ret
          exact ⟨rfl, K.out⟩
        | some g =>
          rw [firstV_some hf] at C4
          have C5 := Lib.hid (fun y2 (k : Kept [] z4 y2) => HF.out.place_yes i n g (B4.out.keep0 k) HI.out HNn.out HE.out (by rw [HS.out]; exact hf))
          obtain ⟨hgt, hroom, _⟩ := first_some hf
          have hfit := room_fit HT.out hroom
          have HRoom := Lib.hid hroom
          clear hf hroom
          go_wp2_with fail
          refine C4.out.mono ?_
          rintro e z5 ⟨rfl, k5⟩
          have K5 := Lib.hid k5
          clear k5 C4
          go_wp2_with fail
          refine (C5.out _ K5.out).mono ?_
          rintro e z6 ⟨rfl, h6, k6, t6⟩
          have B5 := Lib.hid (B4.out.keep0 K5.out)
          have W6 := Lib.hid ((W4.out.keep0 K5.out).kept k6 (own_turn0 B5.out.spc (W4.out.keep0 K5.out)))
          have B6 := Lib.hid (B5.out.turned k6 h6 t6)
          generalize hcs2 : putF cs g (ofL l i n) = cs2 at *
          obtain ⟨ws2, N2, hT2, hN2, hcl2⟩ := few_of B6.out.spc
          obtain ⟨OA, OB, ob1, ob2, ob3, ob4⟩ := put_objs HT.out hS1 HRoom.out (o := ofL l i n) (by rw [HOf.out]) (by rw [hcs2]; exact hT2)
          rw [hcs2] at ob2
          have HBe : Hid (Beside (g : Int) ⟨(g : Int), ofL l i n⟩ cs cs2) := Lib.hid (beside_of rfl ob1 ob2 ob3 ob4)
          have hto : tot (objs cs2) = tot (objs cs) + (S : Int) := by
            rw [ob1, ob2, tot_append, tot_append]
            show tot OA + ((ofL l i n).sz + tot OB) = _
            rw [HOf.out]
            show tot OA + ((S : Int) + tot OB) = tot OA + tot OB + (S : Int)
            omega
          have hgo2 := gap_obj cs2
          have hgb2 := free_bare hT2
          have htN2 := hT2.sum
          have HBl : Hid (∀ j, j < S → bl (g + j) = false) := Lib.hid (room_iff.1 HRoom.out).2
          clear h6 k6 C5 K5 B4 W4 B5 ob1 ob2 ob3 ob4 hT2 HRoom HT hcs2
          go_wp2_with fail
          have H0 : Hid (Kept [] z6 z6) := Lib.hid (Kept.refl _ _)
          go_loopw [24] (fun t wr => ∃ j : Nat, t = .int .i64 ((g : Int) + (j : Int)) ∧ j ≤ S ∧ Hid (Kept [] z6 wr)) (fun t _ => g + S - (intOf t).toNat)
          case atStart => exact ⟨0, by go_num, Nat.zero_le _, H0⟩
          case round =>
            clear H0
            obtain ⟨j, rfl, hj, hr⟩ := hrel
            by_cases hlt : j < S
            · have C8 := Lib.hid ((B6.out.keep0 hr.out).lst.has (g + j) (by omega))
              rw [HBl.out j hlt, Int.natCast_add] at C8
              have HK := Lib.hid hr.out
              clear hr
              go_wp2_with fail
              refine C8.out.mono ?_
              rintro e x1 ⟨rfl, k1⟩
              have HN := Lib.hid (HK.out.trans k1)
              clear k1 C8 HK
              go_wp2_with fail
              go_roundw
              case rel => exact ⟨j + 1, by go_num, by omega, HN⟩
              case measure => simp [intOf] <;> omega
            · obtain rfl : S = j := by omega
              have B7 := Lib.hid (B6.out.keep0 hr.out)
              have W7 := Lib.hid (W6.out.keep0 hr.out)
              have C9 := Lib.hid (zero_cells B7.out.spc)
              clear hr B6 W6 HBl
              go_wp2_with fail
              refine C9.out.mono ?_
              rintro e z8 ⟨vn, rfl, hvn, _, k8⟩
              obtain ⟨An, cn, rfl, _⟩ := back_own (Kept.refl [] z8) hvn
              have B8 := Lib.hid (B7.out.keep0 k8)
              have SW := Lib.hid ((W7.out.keep0 k8).seen)
              have SN := Lib.hid ((show Sp.Own z8 (.slice An cs2.length cn) cs2 from hvn).seen)
              have H0 : Hid (Inv (g : Int) cs cs2 0 0 false ∧ Kept [] z8 z8) := Lib.hid ⟨inv_zero, Kept.refl _ _⟩
              clear k8 hvn C9 B7 W7
              go_wp2_with fail
              go_loopw [26, 27, 28] (fun u v t wr => ∃ (ii kk : Nat) (f : Bool), t = .int .i64 (ii : Int) ∧ u = .int .i64 (kk : Int) ∧ v = .bool f ∧ ii ≤ cs2.length ∧ kk ≤ cs.length ∧ Hid (Inv (g : Int) cs cs2 ii kk f ∧ Kept [] z8 wr)) (fun _ _ t _ => cs2.length - (intOf t).toNat)
              case atStart => exact ⟨0, 0, false, rfl, rfl, rfl, Nat.zero_le _, Nat.zero_le _, H0⟩
              case round =>
                clear H0
                obtain ⟨ii, kk, f, rfl, rfl, rfl, hii, hkk, hr⟩ := hrel
                by_cases hlt : ii < cs2.length
                · obtain ⟨gn, on, rfl, hgn, c0, c1, c2', c3', c4⟩ := (SN.out.keep0 hr.out.2).at ii hlt _ rfl
                  obtain ⟨x, hx⟩ : ∃ x, x = cs2.getD ii Sp.Cel.zero := ⟨_, rfl⟩
                  rw [← hx] at c0 c1 c2' c3' c4
                  by_cases ht : x.h.tg = 1
                  · by_cases ha : x.a = (g : Int)
                    · obtain ⟨hinv, hxe⟩ := inv_new HBe.out hr.out.1 hlt (by rw [← hx]; exact ht) (by rw [← hx]; exact ha)
                      rw [HOf.out, ← hx] at hxe
                      have HN := Lib.hid (show Inv (g : Int) cs cs2 (ii + 1) kk true ∧ Kept [] z8 wr from ⟨hinv, hr.out.2⟩)
                      subst hxe
                      simp only at c0 c1 c2' c3' c4
                      clear hinv hr hx ht ha
                      go_wp2_with fail
                      go_roundw
                      case rel => exact ⟨ii + 1, kk, true, by go_num, rfl, rfl, by omega, hkk, HN⟩
                      case measure => simp [intOf] <;> omega
                    · obtain ⟨R, hR⟩ := inv_next HBe.out hr.out.1 hlt (by rw [← hx]; exact ht) (by rw [← hx]; exact ha)
                      rw [← hx] at hR
                      have H3 : Hid (∃ R, objs (cs.drop kk) = x :: R ∧ Inv (g : Int) cs cs2 ii kk f) := Lib.hid ⟨R, hR, hr.out.1⟩
                      have HX : Hid (x = cs2.getD ii Sp.Cel.zero ∧ x.h.tg = 1 ∧ x.a ≠ (g : Int)) := Lib.hid ⟨hx, ht, ha⟩
                      have hae : (x.a == (g : Int)) = false := by simpa using ha
                      have HK := Lib.hid hr.out.2
                      generalize wr = xw at *
                      obtain ⟨xa, ⟨xt, xy, xl, xz⟩⟩ := x
                      simp only at ht hae c0 c1 c2' c3' c4
                      subst ht
                      clear hR hr hx ha
                      go_wp2_with fail
                      go_loop [26] (fun u => ∃ k2 : Nat, u = .int .i64 (k2 : Int) ∧ k2 ≤ cs.length ∧ Hid (∃ R, objs (cs.drop k2) = ⟨xa, ⟨1, xy, xl, xz⟩⟩ :: R ∧ Inv (g : Int) cs cs2 ii k2 f)) (fun u => cs.length - (intOf u).toNat)
                      case atStart => exact ⟨kk, rfl, hkk, H3⟩
                      case round =>
                        clear H3 hkk
                        obtain ⟨k2, rfl, hk2, hq⟩ := hrel
                        obtain ⟨R, hR, hinv⟩ := hq.out
                        have hin := inv_in hR
                        obtain ⟨gw, ow, rfl, hgw, d0, d1, d2, d3, d4⟩ := (SW.out.keep0 HK.out).at k2 hin _ rfl
                        obtain ⟨y2, hy⟩ : ∃ y2, y2 = cs.getD k2 Sp.Cel.zero := ⟨_, rfl⟩
                        rw [← hy] at d0 d1 d2 d3 d4
                        by_cases ht2 : y2.h.tg = 1
                        · have hyx := inv_hit hR (by rw [← hy]; exact ht2)
                          rw [← hy] at hyx
                          have HN := Lib.hid (inv_step hinv hlt hin (by rw [← HX.out.1]) (by rw [← HX.out.1]; exact HX.out.2.2) (by rw [← HX.out.1, ← hyx, hy]))
                          subst hyx
                          simp only at d0 d1 d2 d3 d4
                          have hso := fun y => run_other y xa 1 xy xl xz xa 1 xy xl xz
                          have hng := no_guard
                          have hq2 := eqC_refl xa 1 xy xl xz
                          clear hR hinv hq hy ht2
                          go_wp2_with fail
                          go_quiet (fail)
                          have HM2 := Lib.hid (show Inv (g : Int) cs cs2 (ii + 1) (k2 + 1) f ∧ Kept [] z8 (xw.drewN nq) from ⟨HN.out, HK.out.drewN nq⟩)
                          clear HN HK d0 d1 d2 d3 d4 c0 c1 c2' c3' c4 hso hng hq2
                          go_wp2_with fail
                          go_roundw
                          case rel => exact ⟨ii + 1, k2 + 1, f, by go_num, by go_num, rfl, by omega, by omega, HM2⟩
                          case measure => simp [intOf] <;> omega
                        · obtain ⟨hR2, hO2⟩ := inv_skip hR (by rw [← hy]; exact ht2)
                          have HN : Hid (∃ R, objs (cs.drop (k2 + 1)) = ⟨xa, ⟨1, xy, xl, xz⟩⟩ :: R ∧ Inv (g : Int) cs cs2 ii (k2 + 1) f) := Lib.hid ⟨R, hR2, by unfold Inv; rw [hO2]; exact hinv⟩
                          have hne2 : (y2.h.tg == 1) = false := by simpa using ht2
                          obtain ⟨ya, ⟨yt, yy, yl, yz⟩⟩ := y2
                          simp only at hne2 d0 d1 d2 d3 d4
                          clear hR hinv hq hy ht2 hR2 hO2
                          go_wp2_with fail
                          go_round
                          case rel => exact ⟨k2 + 1, by go_num, by omega, HN⟩
                          case measure => simp [intOf] <;> omega
                  · have HN := Lib.hid (show Inv (g : Int) cs cs2 (ii + 1) kk f ∧ Kept [] z8 wr from ⟨inv_gap hr.out.1 hlt (by rw [← hx]; exact ht), hr.out.2⟩)
                    have hne : (x.h.tg == 1) = false := by simpa using ht
                    obtain ⟨xa, ⟨xt, xy, xl, xz⟩⟩ := x
                    simp only at hne c0 c1 c2' c3' c4
                    clear hr hx ht
                    go_wp2_with fail
                    go_roundw
                    case rel => exact ⟨ii + 1, kk, f, by go_num, rfl, rfl, by omega, hkk, HN⟩
                    case measure => simp [intOf] <;> omega
                · obtain rfl : ii = cs2.length := by omega
                  obtain rfl := inv_end HBe.out hr.out.1
                  have B9 := Lib.hid (B8.out.keep0 hr.out.2)
                  have D1 := Lib.hid (HF.out.free (Both.bare B9.out.tb B9.out.spc))
                  have hless : (freeF noB cs2 : Int) = (freeF noB cs : Int) - (S : Int) := by omega
                  have hfl := free_le (cs := cs) noB
                  have hfl2 := free_le (cs := cs2) noB
                  rw [hless] at D1
                  have hsb : 0 ≤ tot (objs cs) ∧ tot (objs cs) ≤ 32768 := by omega
                  clear hr B8 SW SN
                  go_wp2_with fail
                  refine D1.out.mono ?_
                  rintro e x1 ⟨rfl, k1⟩
                  have B10 := Lib.hid (B9.out.keep0 k1)
                  have D2 := Lib.hid (objects_ok B10.out.spc)
                  rw [hto] at D2
                  clear k1 D1 B9
                  go_wp2_with fail
                  refine D2.out.mono ?_
                  rintro e x2 ⟨rfl, k2⟩
                  have KZ := Lib.hid (KY.out.trans (B10.out.spc.kept.trans k2))
                  clear k2 D2 B10
                  go_wp2_with fail
                  refine (HA.out _ KZ.out).mono ?_
                  rintro e x3 ⟨rfl, k3⟩
                  have K := Lib.hid (KZ.out.trans k3)
                  clear k3
                  go_wp2_with fail
                  go_ret
                  exact ⟨rfl, K.out⟩
      · have hb0 : (sizeE l i n == 0) = false := by simpa using he
        have C5 := Lib.hid (fun y2 (k : Kept [] z y2) => HF.out.place_err i n (HB.out.keep0 k) HI.out HNn.out he)
        generalize sizeE l i n = er at *
        generalize sizeT l i n = sz at *
        clear he
        go_wp2_with fail
        refine (HTab.out z (Kept.refl _ _)).mono ?_
        rintro e z0 ⟨rfl, rfl⟩
        go_wp2_with fail
        refine (HSz.out _ (Kept.refl _ _)).mono ?_
        rintro e z1 ⟨rfl, k1⟩
        have K1 := Lib.hid k1
        clear k1 HSz HTab
        go_wp2_with fail
        refine (C5.out _ K1.out).mono ?_
        rintro e z2 ⟨rfl, k2⟩
        have KZ := Lib.hid (KY.out.trans (HB.out.spc.kept.trans (K1.out.trans k2)))
        clear k2 C5 K1 HB
        go_wp2_with fail
        refine (HA.out _ KZ.out).mono ?_
        rintro e z3 ⟨rfl, k3⟩
        have K := Lib.hid (KZ.out.trans k3)
        clear k3
        go_wp2_with fail
        go_ret
        exact ⟨rfl, K.out⟩
end Go.Proofs.YtoagghileebokaaGreatDoor.Ft
