/-
  Stage 12, black: the law's Does: a step, of a list and of the document's.
-/
import Derived.Test.YtijlaganpnoefaaDoorBkCtr
import Derived.Test.YtijlaganpnoefaaDoorIntStep
namespace Go.Proofs.YtijlaganpnoefaaDoor.Bk
open Go.RowKit Go.Proofs.YtijlaganpnoefaaDoor.Ar
set_option linter.unusedVariables false
def stepL (ls : List Int) (d : Int) (gs : List Int) : List Int := if d = 0 then hitL ls gs else if d = 1 then turnL ls else ls
theorem stepL_hit (ls gs : List Int) : stepL ls 0 gs = hitL ls gs := if_pos rfl
theorem stepL_turn (ls gs : List Int) : stepL ls 1 gs = turnL ls := (if_neg (by decide)).trans (if_pos rfl)
theorem stepL_no {ls gs : List Int} {d : Int} (h0 : ¬ d = 0) (h1 : ¬ d = 1) : stepL ls d gs = ls := (if_neg h0).trans (if_neg h1)
section
variable {G : World → Prop} {P : World → World → Nat → List Nat → List Int → Prop} {w x : World} {p r q : Nat} {T : List Nat} {ls dd : List Int}
set_option maxRecDepth 100000 in
set_option maxHeartbeats 16000000 in
theorem does_gen (C : Ctr G P) (h : BDuo P w x p T ls r q dd) (hdl : dd.length = ls.length) (st : BStp) (gs : List Int) (hgl : gs.length = st.len) (hgs : Ir.Seen w st.A gs) (hgI : ∀ g ∈ gs, I64 g) (hgn : st.A = none → st.cap = 0) (hgm : gs.length ≤ 100000) :
    Calls Tryd.prog 15 #[.pointer (some ⟨p, 0, none⟩), .pointer (some ⟨r, 0, none⟩), .agg #[.int .i64 st.d, .slice st.A st.len st.cap]] x fun e y => e = .returned (.bool (if st.d = 1 then ones ls == ones dd else true)) ∧ ∃ T', BDuo P w y p T' (stepL ls st.d gs) r q (stepL dd st.d gs) := by
  obtain ⟨sd, sA, slen, scap⟩ := st
  simp only at *
  subst hgl
  have hk : Kept [] x (x.alloc (.cells #[.int .i64 sd, .slice sA gs.length scap] 34)) := (Kept.refl [] x).alloc _
  have hb := Has.new x 34 [.int .i64 sd, .slice sA gs.length scap]
  have h1 := h.keep0 C hk
  have hbT : x.heap.size ∉ T := fun hm => by have := (C.fresh h.ours _ hm).2; omega
  have hbr : x.heap.size ≠ r := by have := h.doc.head.lt; omega
  have hbq : x.heap.size ≠ q := by have := h.doc.row.lt; omega
  obtain ⟨x1, hx1⟩ : ∃ x1, x.alloc (.cells #[.int .i64 sd, .slice sA gs.length scap] 34) = x1 := ⟨_, rfl⟩
  have hb1 : Has x1 x.heap.size 34 [.int .i64 sd, .slice sA gs.length scap] := by rw [← hx1]; exact hb
  rw [hx1] at h1 hk
  have q0 := hb1.cell 0
  have q1 := hb1.cell 1
  simp only [List.getElem?_cons_zero, List.getElem?_cons_succ] at q0 q1
  have hlt1 : x.heap.size < x1.heap.size := hb1.lt
  have HCl : Hid (∀ z : World, z.heap[x.heap.size]? = x1.heap[x.heap.size]? → z.cell? ⟨x.heap.size, 1, none⟩ = some (.slice sA gs.length scap)) := Lib.hid fun z hz => (World.cell?_of_block (w := x1) hz).trans q1
  have HbT := Lib.hid hbT
  have Hbr := Lib.hid hbr
  have Hbq := Lib.hid hbq
  have HLt := Lib.hid hlt1
  have HGs := Lib.hid hgs
  have HGI := Lib.hid hgI
  have HC := Lib.hid C
  have H0 := Lib.hid h1
  have hqlt : q < x1.heap.size := h1.doc.row.lt
  have hTlt : ∀ i ∈ T, i < x1.heap.size := fun i hi => (C.fresh h1.ours i hi).2
  have Hqlt := Lib.hid hqlt
  have HTlt := Lib.hid hTlt
  have HW : Hid (Kept [] w x1) := Lib.hid (C.start h1.ours)
  clear hb hb1 h1 h hk hgs hgI hbT hbr hbq hlt1 hqlt hTlt C
  go_enter Tryd.func15, Tryd.ntmps15
  rw [← hx1] at q0
  have hq0 := q0
  rw [hx1] at q0
  by_cases e0 : sd = 0
  · subst e0
    have hb0 : ((0 : Int) == 0) = true := rfl
    rw [stepL_hit, stepL_hit, if_neg (show ¬ (0 : Int) = 1 by decide)]
    go_wp2_with fail
    try simp only [hx1]
    clear hx1
    generalize x.heap.size = b5 at *
    have HSeen : Hid (∀ (y0 y : World) (ds : List Int), (BDuo P w y0 p T ls r q ds ∧ y0.heap[b5]? = x1.heap[b5]? ∧ x1.heap.size ≤ y0.heap.size) → Kept [] y0 y → Ir.Seen y sA gs) := Lib.hid fun y0 y ds hq k => HGs.out.keep0 ((HC.out.start hq.1.ours).trans k)
    have HApp : Hid (∀ (y0 y x7 : World) (v7 : Value) (ds : List Int), (BDuo P w y0 p T ls r q ds ∧ y0.heap[b5]? = x1.heap[b5]? ∧ x1.heap.size ≤ y0.heap.size) → Kept [] y0 y → Ir.Own x7 v7 ([] ++ gs) → y.grownBy x7 (Value.slice none 0 0).ownBlock → (v7.ownBlock = (Value.slice none 0 0).ownBlock ∨ v7.ownBlock = some y.heap.size) →
        (BDuo P w x7 p T ls r q ds ∧ x7.heap[b5]? = x1.heap[b5]? ∧ x1.heap.size ≤ x7.heap.size) ∧ Ir.Own x7 v7 gs ∧ ∀ i, i < x1.heap.size → v7.ownBlock ≠ some i) := Lib.hid fun y0 y x7 v7 ds hq k o g b => by
      have kk : Kept [] y0 x7 := own_grown k (.inl rfl) g
      rw [List.nil_append] at o
      refine ⟨⟨hq.1.keep0 HC.out kk, (kk.old b5 (Nat.lt_of_lt_of_le HLt.out hq.2.2) (by simp)).trans hq.2.1, Nat.le_trans hq.2.2 kk.more⟩, o, fun i hi he => ?_⟩
      rcases b with b | b
      · rw [b] at he; cases he
      · rw [b] at he
        injection he with he
        have := k.more
        have := hq.2.2
        omega
    have CP : Hid (∀ (y0 y : World) (ds : List Int) (v : Value), ((BDuo P w y0 p T ls r q ds ∧ y0.heap[b5]? = x1.heap[b5]? ∧ x1.heap.size ≤ y0.heap.size) ∧ Ir.Own y0 v gs ∧ ∀ i, i < x1.heap.size → v.ownBlock ≠ some i) → Kept [] y0 y →
        Calls Tryd.prog 13 #[.pointer (some ⟨p, 0, none⟩), v] y fun e z => e = .returned (.int .i64 (hitE ls.length gs)) ∧ ∃ T', Hid (BDuo P w z p T' (hitL ls gs) r q ds ∧ z.heap[b5]? = x1.heap[b5]? ∧ b5 < z.heap.size) ∧ z.cell? ⟨b5, 1, none⟩ = some (.slice sA gs.length scap)) := Lib.hid fun y0 y ds v hq k => by
      obtain ⟨⟨hd, h5, hle⟩, ho, hv⟩ := hq
      have hd1 := hd.keep0 HC.out k
      have h51 : y.heap[b5]? = x1.heap[b5]? := (k.old b5 (Nat.lt_of_lt_of_le HLt.out hle) (by simp)).trans h5
      obtain ⟨A, c, rfl, hbk⟩ := Ir.back_own (Kept.refl [] _) (ho.keep0 k)
      refine (HC.out.hit gs hd1.ours (fun z kz => ?_) (by omega) HGI.out).mono ?_
      · obtain ⟨A', c', he, hbz⟩ := Ir.back_own (Kept.refl [] _) ((ho.keep0 k).kept kz fun i hi => hv i (HTlt.out i hi))
        injection he with he
        rw [he]
        exact hbz.2.1
      · rintro e z ⟨he, T', hP, hkz, ht⟩
        have h5z : z.heap[b5]? = x1.heap[b5]? := (hkz.old b5 (Nat.lt_of_lt_of_le HLt.out (Nat.le_trans hle k.more)) HbT.out).trans h51
        exact ⟨he, T', Lib.hid ⟨hd1.mine HC.out hkz hP ht, h5z, Nat.lt_of_lt_of_le HLt.out (Nat.le_trans (Nat.le_trans hle k.more) hkz.more)⟩, HCl.out z h5z⟩
    have CD : Hid (∀ (y0 y : World) (T0 : List Nat) (lp : List Int), (BDuo P w y0 p T0 lp r q dd ∧ y0.heap[b5]? = x1.heap[b5]? ∧ b5 < y0.heap.size) → Kept [] y0 y →
        Calls Tryd.prog 28 #[.pointer (some ⟨r, 0, none⟩), .slice sA gs.length scap] y fun e z => e = .returned (.int .i64 (hitE ls.length gs)) ∧ Hid (BDuo P w z p T0 lp r q (hitL dd gs) ∧ z.heap[b5]? = x1.heap[b5]? ∧ y.heap.size ≤ z.heap.size) ∧ Hid (∀ v, Ir.Own y0 v gs → v.ownBlock ≠ some q → Ir.Own z v gs) ∧ z.cell? ⟨b5, 1, none⟩ = some (.slice sA gs.length scap)) := Lib.hid fun y0 y T0 lp hq k => by
      obtain ⟨hd, h5, hle⟩ := hq
      have hd1 := hd.keep0 HC.out k
      have h51 : y.heap[b5]? = x1.heap[b5]? := (k.old b5 hle (by simp)).trans h5
      have hky : Kept [] w y := HC.out.start hd1.ours
      refine (bhit_ok hd1.doc gs (fun z kz => HGs.out.keep0 (hky.forget kz (fun i hi => by rw [List.mem_singleton.1 hi]; exact hd1.fq))) (by omega)).mono ?_
      · rintro e z ⟨he, hB, hkz⟩
        rw [hdl] at he
        have h5z : z.heap[b5]? = x1.heap[b5]? := (hkz.old b5 (Nat.lt_of_lt_of_le hle k.more) (by simpa using Hbq.out)).trans h51
        exact ⟨he, Lib.hid ⟨hd1.theirs HC.out hkz hB, h5z, hkz.more⟩, Lib.hid fun v hv hn => (hv.keep0 k).kept hkz fun i hi => by rw [List.mem_singleton.1 hi]; exact hn, HCl.out z h5z⟩
    generalize hitE ls.length gs = er at *
    have HS0 : Hid (BDuo P w x1 p T ls r q dd ∧ x1.heap[b5]? = x1.heap[b5]? ∧ x1.heap.size ≤ x1.heap.size) := Lib.hid ⟨H0.out, rfl, Nat.le_refl _⟩
    go_region_held3 (fun y => y.cell? ⟨b5, 1, none⟩ = some (.slice sA gs.length scap)) (go_keep)
      (first
        | (go_at_call 13; refine (CP.out _ _ _ _ h7.out ?_).mono ?_; (first | exact Kept.refl _ _ | exact (Kept.refl _ _).drew | exact (Kept.refl _ _).drewN _); rintro e z2 ⟨rfl, T2, hP2, w2⟩)
        | (go_at_call 28; refine (CD.out _ _ _ _ hP2.out ?_).mono ?_; (first | exact Kept.refl _ _ | exact (Kept.refl _ _).drew | exact (Kept.refl _ _).drewN _); rintro e z3 ⟨rfl, hF3, hOw, w3⟩)
        | (refine Ir.step_append_row (by rfl) (.const (.slice none 0 0)) (.tmp 13) (by rfl) (.slice none 0 0) [] (by rfl) (Ir.Own.nil _) sA gs.length scap gs (by rfl) rfl hgn (HSeen.out _ _ _ HS0.out (by first | exact (Kept.refl _ _).drew | exact Kept.refl _ _ | exact (Kept.refl _ _).drewN _)) (by simp only [List.length_nil]; omega) ?_; intro v7 x7 o7 g7 b7; have h7 := Lib.hid (HApp.out _ _ _ _ _ HS0.out (by first | exact (Kept.refl _ _).drew | exact Kept.refl _ _ | exact (Kept.refl _ _).drewN _) o7 g7 b7); have w1 := HCl.out x7 h7.out.1.2.1; clear o7 g7 b7)
        | fail)
    all_goals
      go_wp2_with fail
      go_ret
      exact ⟨rfl, _, hF3.out.1⟩
  · by_cases e1 : sd = 1
    · subst e1
      have hb0 : ((1 : Int) == 0) = false := rfl
      have hb1 : ((1 : Int) == 1) = true := rfl
      rw [stepL_turn, stepL_turn, if_pos (show (1 : Int) = 1 from rfl)]
      have HT := Lib.hid (HC.out.turn H0.out.ours)
      go_wp2_with fail
      refine HT.out.mono ?_
      rintro e z ⟨rfl, T', hP, hk, ht⟩
      have hd := H0.out.mine HC.out hk hP ht
      have HB := Lib.hid (bturn_ok hd.doc)
      have HD := Lib.hid hd
      clear hd hP hk ht HT
      go_wp2_with fail
      refine HB.out.mono ?_
      rintro e z2 ⟨rfl, hB, hk⟩
      have HE := Lib.hid (HD.out.theirs HC.out hk hB)
      clear hB hk HB HD
      go_wp2_with fail
      go_ret
      exact ⟨rfl, _, HE.out⟩
    · have hb0 : (sd == 0) = false := by simpa using e0
      have hb1 : (sd == 1) = false := by simpa using e1
      rw [stepL_no e0 e1, stepL_no e0 e1, if_neg e1]
      go_wp2_with fail
      go_ret
      exact ⟨rfl, _, H0.out⟩
theorem does_ok (C : Ctr G P) (h : BDuo P w x p T ls r q ls) (st : BStp) (gs : List Int) (hgl : gs.length = st.len) (hgs : Ir.Seen w st.A gs) (hgI : ∀ g ∈ gs, I64 g) (hgn : st.A = none → st.cap = 0) (hgm : gs.length ≤ 100000) :
    Calls Tryd.prog 15 #[.pointer (some ⟨p, 0, none⟩), .pointer (some ⟨r, 0, none⟩), .agg #[.int .i64 st.d, .slice st.A st.len st.cap]] x fun e y => e = .returned (.bool true) ∧ ∃ T', BDuo P w y p T' (stepL ls st.d gs) r q (stepL ls st.d gs) := by
  refine (does_gen C h rfl st gs hgl hgs hgI hgn hgm).mono fun e y ⟨he, hT⟩ => ⟨?_, hT⟩
  rw [he]
  split <;> simp
end
end Go.Proofs.YtijlaganpnoefaaDoor.Bk
