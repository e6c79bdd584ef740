/-
  The walk of the law RunsPlay.
-/
import Derived.Test.YtbgonppichdhiaaRnBackWalk
import Derived.Deep.RegionHeld3
namespace Go.Proofs.Ytbgonppichdhiaa.Rn
open Go.RowKit Go.Proofs.Ytbgonppichdhiaa.Ar Go.Proofs.Ytbgonppichdhiaa.Bt Go.Proofs.Ytbgonppichdhiaa.Lk Go.Sort
set_option linter.unusedVariables false
attribute [local go_sem ↓] Go.wp_at_zero Go.wp_at_succ

/-- An old set that is played with, and its copy, which stays. -/
structure Two (w y : World) (p pn : Nat) (rs : List R) : Prop where
  sets : ∃ ns ms, Rs y p ns ∧ Fine 0 (runsIn ns) ∧ Rs y pn ms ∧ runsIn ms = rs ∧ (∀ b ∈ blocks p ns, w.heap.size ≤ b ∧ b ∉ blocks pn ms) ∧ ∀ b ∈ blocks pn ms, w.heap.size ≤ b
  fine : Fine 0 rs
  world : Kept [] w y
namespace Two
variable {w y : World} {p pn : Nat} {rs : List R}
theorem copy {x : World} (h : Sx w x p rs) : Calls Try.prog 10 #[.pointer (some ⟨p, 0, none⟩)] x fun e y => e = .returned (.pointer (some ⟨x.heap.size, 0, none⟩)) ∧ Two w y p x.heap.size rs ∧ Kept [] x y := by
  obtain ⟨ns, h1, rfl, h3⟩ := h.set
  exact (copy_ok x p ns h1).mono fun e y ⟨ms, he, hr, hm, hb, hk⟩ => by
    have hlow : ∀ b ∈ blocks x.heap.size ms, x.heap.size ≤ b := fun b hb' => by
      rcases List.mem_cons.1 hb' with rfl | hb'
      · exact Nat.le_refl _
      · obtain ⟨m, hm', rfl⟩ := List.mem_map.1 hb'
        exact hb m hm'
    exact ⟨he, ⟨⟨ns, ms, h1.keep0 hk, h.fine, hr, hm, fun b hb' => ⟨h3 b hb', fun hh => by have := hlow b hh; have := h1.lt b hb'; omega⟩, fun b hb' => Nat.le_trans h.world.more (hlow b hb')⟩, h.fine, h.world.trans hk⟩, hk⟩
theorem now {z : World} {ns ms : List Nd} {rs' : List R} (h1 : Rs y p ns) (h3 : Rs y pn ms) (h4 : runsIn ms = rs) (h5 : ∀ b ∈ blocks p ns, w.heap.size ≤ b ∧ b ∉ blocks pn ms) (h6 : ∀ b ∈ blocks pn ms, w.heap.size ≤ b) (hf : Fine 0 rs) (hw : Kept [] w y) (hn : Now y p ns rs' z) (hf' : Fine 0 rs') : Two w z p pn rs ∧ Others y z := by
  obtain ⟨ns', g1, g2, g3, g4⟩ := hn
  refine ⟨⟨⟨ns', ms, g1, by rw [g2]; exact hf', h3.kept g3 fun b hb hS => (h5 b hS).2 hb, h4, fun b hb => ?_, h6⟩, hf, hw.forget g3 fun b hb => (h5 b hb).1⟩, Others.of h1 g3⟩
  rcases g4 b hb with g | g
  · exact h5 b g
  · exact ⟨Nat.le_trans hw.more g, fun hh => by have := h3.lt b hh; omega⟩
theorem add (h : Two w y p pn rs) (a n : Int) (a1 : -9223372036854775808 ≤ a) (a2 : a ≤ 9223372036854775807) (n1 : -9223372036854775808 ≤ n) (n2 : n ≤ 9223372036854775807) :
    Calls Try.prog 11 #[.pointer (some ⟨p, 0, none⟩), runV a n] y fun e z => ∃ c, e = .returned (.int .i64 c) ∧ Two w z p pn rs ∧ Others y z := by
  obtain ⟨ns, ms, h1, h2, h3, h4, h5, h6⟩ := h.sets
  exact (add_all y p ns h1 h2 a n a1 a2 n1 n2).mono fun e z ⟨he, hn⟩ => ⟨_, he, now h1 h3 h4 h5 h6 h.fine h.world hn (addW_fine h2 a n)⟩
theorem cut (h : Two w y p pn rs) (a n : Int) (a1 : -9223372036854775808 ≤ a) (a2 : a ≤ 9223372036854775807) (n1 : -9223372036854775808 ≤ n) (n2 : n ≤ 9223372036854775807) :
    Calls Try.prog 12 #[.pointer (some ⟨p, 0, none⟩), runV a n] y fun e z => ∃ c, e = .returned (.int .i64 c) ∧ Two w z p pn rs ∧ Others y z := by
  obtain ⟨ns, ms, h1, h2, h3, h4, h5, h6⟩ := h.sets
  exact (cut_all y p ns h1 h2 a n a1 a2 n1 n2).mono fun e z ⟨he, hn⟩ => ⟨_, he, now h1 h3 h4 h5 h6 h.fine h.world hn (cutW_fine h2 a n)⟩
theorem new (h : Two w y p pn rs) : Sx w y pn rs := by
  obtain ⟨ns, ms, h1, h2, h3, h4, h5, h6⟩ := h.sets
  exact ⟨⟨ms, h3, h4, h6⟩, h.fine, h.world⟩
end Two
/-- What the law's last test reads. -/
def Cs (y : World) (b13 b15 b17 b19 r rp : Nat) (ox oy fx fy : Int) : Prop :=
  y.cell? ⟨b13, 0, none⟩ = some (.int .i64 ox) ∧ y.cell? ⟨b13, 1, none⟩ = some (.int .i64 oy) ∧ y.cell? ⟨b15, 0, none⟩ = some (.int .i64 ox) ∧ y.cell? ⟨b15, 1, none⟩ = some (.int .i64 oy) ∧ y.cell? ⟨b17, 0, none⟩ = some (.int .i64 fx) ∧ y.cell? ⟨b17, 1, none⟩ = some (.int .i64 fy) ∧ y.cell? ⟨b19, 0, none⟩ = some (.int .i64 fx) ∧ y.cell? ⟨b19, 1, none⟩ = some (.int .i64 fy) ∧ y.cell? ⟨r, 0, none⟩ = some (.pointer (some ⟨rp, 0, none⟩))
/-- Where the law stands between two steps. -/
def Twin (w x : World) (p r rp rq : Nat) (rs : List R) : Prop := Sx w x p rs ∧ RefAt x r rp rq rs ∧ w.heap.size ≤ rq
theorem Twin.stay {w x y : World} {p r rp rq : Nat} {rs : List R} (h : Twin w x p r rp rq rs) (k : Kept [] x y) : Twin w y p r rp rq rs := ⟨h.1.stay k, h.2.1.keep0 k, h.2.2⟩
theorem Twin.does {w x : World} {p r rp rq : Nat} {rs : List R} (h : Twin w x p r rp rq rs) (st : Stp) (hs : st.ok) :
    Calls Try.prog 13 #[.pointer (some ⟨p, 0, none⟩), .pointer (some ⟨r, 0, none⟩), .agg #[.int .i64 st.d, .int .i64 st.a, .int .i64 st.n]] x fun e y => e = .returned (.bool true) ∧ Twin w y p r rp rq (stepS rs st) :=
  (does_ok h.1 h.2.1 h.1.fine h.2.2 st hs).mono fun e y ⟨he, hd, hr, _⟩ => ⟨by rw [stepB_same] at he; exact he, hd, hr, h.2.2⟩
theorem refHasR_ok (w : World) {r p q : Nat} {rs : List R} (h : RefAt w r p q rs) (hf : Fine 0 rs) (i : Int) (i1 : -9223372036854775808 ≤ i) (i2 : i ≤ 9223372036854775807) :
    Calls Try.prog 24 #[.pointer (some ⟨p, 0, none⟩), .int .i64 i] w fun e w' => e = .returned (.bool (hasI rs i)) ∧ w = w' := by
  obtain ⟨bs, hb, hl, hm⟩ := h.bits
  have e : hasV bs i = hasI rs i := by rw [hasI_has hf]; unfold hasV; rw [hm]
  rw [← e]
  exact refHas_ok w hb i i1 i2

set_option maxRecDepth 100000 in
set_option maxHeartbeats 800000 in
theorem play_long (A : Option Addr) (k cap : Nat) (i n fr : Int) (w : World) (hm : 60 < k) (hl : k ≤ maxLen) :
    Calls Try.prog 3 #[.slice A k cap, .int .i64 i, .int .i64 n, .int .i64 fr] w fun e w' => e = .returned (.bool true) ∧ Kept [] w w' := by
  unfold maxLen at hl
  have HA := Lib.hid (alive_ok w)
  go_enter Try.func3, Try.ntmps3
  go_wp2_with fail
  refine HA.out.mono ?_; rintro e w' ⟨rfl, hk⟩
  have HK := Lib.hid hk
  clear hk
  go_wp2_with fail
  go_ret
  exact ⟨rfl, HK.out⟩

set_option maxRecDepth 100000 in
set_option maxHeartbeats 16000000 in
theorem play_walk (A : Option Addr) (L : List Stp) (cap : Nat) (i n fr : Int) (w : World) (hL : L.length ≤ 60) (hst : Steps w A L) (hoks : ∀ s ∈ L, s.ok)
    (i1 : -9223372036854775808 ≤ i) (i2 : i ≤ 9223372036854775807) (n1 : -9223372036854775808 ≤ n) (n2 : n ≤ 9223372036854775807) (f1 : -9223372036854775808 ≤ fr) (f2 : fr ≤ 9223372036854775807) :
    Calls Try.prog 3 #[.slice A L.length cap, .int .i64 i, .int .i64 n, .int .i64 fr] w fun e w' => e = .returned (.bool true) ∧ Kept [] w w' := by
  have HA := Lib.hid (fun x => alive_ok x)
  have HN := Lib.hid (Sx.new w)
  have HS := Lib.hid hst
  have HO := Lib.hid hoks
  clear hst hoks
  go_enter Try.func3, Try.ntmps3
  go_wp2_with fail
  refine HN.out.mono ?_
  rintro e x0 ⟨rfl, h0⟩
  have H0 := Lib.hid h0
  have HNR := Lib.hid (refNewR_ok x0)
  clear h0 HN
  obtain ⟨p0, hp0⟩ : ∃ p0, p0 = w.heap.size := ⟨_, rfl⟩
  rw [← hp0] at H0 ⊢
  clear hp0
  go_wp2_with fail
  refine HNR.out.mono ?_
  rintro e x1 ⟨r, rp, rq, rfl, hR, hz, hk⟩
  have HG0 : Hid (Twin w x1 p0 r rp rq []) := Lib.hid ⟨H0.out.stay hk, hR, Nat.le_trans H0.out.world.more hz.2.2⟩
  clear hR hz hk HNR H0
  go_wp2_with fail
  go_loopw [9, 11, 12] (fun s t o wr => ∃ (j p : Nat) (rs : List R), j ≤ L.length ∧ t = .int .i64 (j : Int) ∧ s = .pointer (some ⟨p, 0, none⟩) ∧ Hid (Twin w wr p r rp rq rs)) (fun _ t _ _ => L.length - (intOf t).toNat)
  case atStart => exact ⟨0, p0, [], Nat.zero_le _, rfl, rfl, HG0⟩
  case round =>
    clear HG0
    obtain ⟨j, p, rs, hj, rfl, rfl, hG⟩ := hrel
    by_cases hlt : j < L.length
    · have hne : L ≠ [] := fun h0 => by rw [h0] at hlt; simp at hlt
      obtain ⟨g0, f0, rfl, hcs⟩ := HS.out.later hne
      obtain ⟨st, hsj⟩ : ∃ st, L[j]? = some st := ⟨_, List.getElem?_eq_getElem hlt⟩
      have hok := Lib.hid (HO.out st (List.mem_of_getElem? hsj))
      have hcl := fun x hk => hcs x hk j st hsj
      have HC : Hid (∀ x, Kept [] w x → x.cell? ⟨g0, f0 + j * 3, none⟩ = some (.int .i64 st.d) ∧ x.cell? ⟨g0, f0 + j * 3 + 1, none⟩ = some (.int .i64 st.a) ∧ x.cell? ⟨g0, f0 + j * 3 + 2, none⟩ = some (.int .i64 st.n)) := Lib.hid fun x hk => ⟨hcl x hk 0 _ rfl, hcl x hk 1 _ rfl, hcl x hk 2 _ rfl⟩
      clear hcl hcs hsj hne
      obtain ⟨d0, d1, d2⟩ := HC.out wr hG.out.1.world
      by_cases hd : st.d = 2
      · rw [hd] at d0
        have hdok := hok.out
        have HCp := Lib.hid (Two.copy hG.out.1)
        have HRef := Lib.hid hG.out.2
        clear hd hG
        go_wp2_with fail
        refine HCp.out.mono ?_
        rintro e y1 ⟨rfl, hT, hk⟩
        have HT1 := Lib.hid hT
        have HR1 : Hid (RefAt y1 r rp rq rs) := Lib.hid (HRef.out.1.keep0 hk)
        have HAd := Lib.hid (Two.add hT 65535 1 (by omega) (by omega) (by omega) (by omega))
        unfold runV at HAd
        clear hT hk HCp d0 d1 d2
        generalize wr.heap.size = pn at *
        go_wp2_with fail
        refine HAd.out.mono ?_
        rintro e y2 ⟨c, rfl, hT, ho⟩
        have HR2 := Lib.hid (ho.ref HR1.out)
        have HCu := Lib.hid (Two.cut hT st.a st.n hdok.2.1.1 hdok.2.1.2 hdok.2.2.1 hdok.2.2.2)
        unfold runV at HCu
        obtain ⟨d0, d1, d2⟩ := HC.out y2 hT.world
        clear hT ho HAd HR1 HT1 hdok
        go_wp2_with fail
        refine HCu.out.mono ?_
        rintro e y3 ⟨c, rfl, hT, ho⟩
        have HG : Hid (Twin w y3 pn r rp rq rs) := Lib.hid ⟨hT.new, ho.ref HR2.out, HRef.out.2⟩
        clear hT ho HCu HR2 HRef d0 d1 d2
        obtain ⟨d0, d1, d2⟩ := HC.out y3 HG.out.1.world
        have HD := Lib.hid (Twin.does HG.out st hok.out)
        generalize stepS rs st = R1 at *
        clear HG
        go_wp2_with fail
        refine HD.out.mono ?_
        rintro e y4 ⟨rfl, hG⟩
        have HG := Lib.hid hG
        clear hG HD d0 d1 d2
        go_wp2_with fail
        go_roundw
        case rel => exact ⟨j + 1, pn, R1, by omega, by go_num, rfl, HG⟩
        case measure => simp [intOf]; omega
      · have hdb : (st.d == 2) = false := beq_eq_false_iff_ne.2 hd
        clear hd
        have HD := Lib.hid (Twin.does hG.out st hok.out)
        generalize stepS rs st = R1 at *
        clear hG
        go_wp2_with fail
        refine HD.out.mono ?_
        rintro e y4 ⟨rfl, hG⟩
        have HG := Lib.hid hG
        clear hG HD d0 d1 d2
        go_wp2_with fail
        go_roundw
        case rel => exact ⟨j + 1, p, R1, by omega, by go_num, rfl, HG⟩
        case measure => simp [intOf]; omega
    · obtain rfl : j = L.length := by omega
      clear hlt hj HS HO
      obtain ⟨ox, oy, hov⟩ : ∃ ox oy, ofR (ofO rs i) = .agg #[.int .i64 ox, .int .i64 oy] := by
        cases ofO rs i with
        | none => exact ⟨0, 0, rfl⟩
        | some q => exact ⟨_, _, rfl⟩
      obtain ⟨fx, fy, hfv⟩ : ∃ fx fy, firstR (firstO rs n fr) n = .agg #[.int .i64 fx, .int .i64 fy] := by
        cases firstO rs n fr with
        | none => exact ⟨0, 0, rfl⟩
        | some q => exact ⟨_, _, rfl⟩
      have HOf := Lib.hid (fun y (hy : Twin w y p r rp rq rs) => Sx.of hy.1 i)
      have HROf := Lib.hid (fun y (hy : Twin w y p r rp rq rs) => refOf_ok y hy.2.1 hy.1.fine i)
      have HFi := Lib.hid (fun y (hy : Twin w y p r rp rq rs) => Sx.first hy.1 n fr n1 n2 f1 f2)
      have HRFi := Lib.hid (fun y (hy : Twin w y p r rp rq rs) => refFirst_ok y hy.2.1 hy.1.fine n fr n1 n2 f1 f2)
      rw [hov] at HOf HROf
      rw [hfv] at HFi HRFi
      clear hov hfv
      generalize (ofO rs i).isSome = ob at *
      generalize (firstO rs n fr).isSome = fb at *
      go_wp2_with fail
      refine (HOf.out _ hG.out).mono ?_
      rintro e y1 ⟨rfl, hk⟩
      have HG1 := Lib.hid (hG.out.stay hk)
      clear hk HOf hG
      go_wp2_with fail
      have hk : Kept [] y1 (y1.alloc (.cells #[.int .i64 ox, .int .i64 oy] 29)) := (Kept.refl [] y1).alloc _
      have hb : Has (y1.alloc (.cells #[.int .i64 ox, .int .i64 oy] 29)) y1.heap.size 29 [.int .i64 ox, .int .i64 oy] := Has.new y1 _ [.int .i64 ox, .int .i64 oy]
      generalize y1.alloc (.cells #[.int .i64 ox, .int .i64 oy] 29) = y2 at *
      generalize y1.heap.size = b13 at *
      have HG2 := Lib.hid (HG1.out.stay hk)
      have HB2 := Lib.hid hb
      clear hk hb HG1
      refine (HROf.out _ HG2.out).mono ?_
      rintro e y3 ⟨rfl, hk⟩
      have HG3 := Lib.hid (HG2.out.stay hk)
      have HB3 := Lib.hid (HB2.out.keep0 hk)
      clear hk HROf HG2 HB2
      go_wp2_with fail
      have hk : Kept [] y3 (y3.alloc (.cells #[.int .i64 ox, .int .i64 oy] 29)) := (Kept.refl [] y3).alloc _
      have hb : Has (y3.alloc (.cells #[.int .i64 ox, .int .i64 oy] 29)) y3.heap.size 29 [.int .i64 ox, .int .i64 oy] := Has.new y3 _ [.int .i64 ox, .int .i64 oy]
      generalize y3.alloc (.cells #[.int .i64 ox, .int .i64 oy] 29) = y4 at *
      generalize y3.heap.size = b15 at *
      have HG4 := Lib.hid (HG3.out.stay hk)
      have HB4 := Lib.hid (HB3.out.keep0 hk)
      have HC4 := Lib.hid hb
      clear hk hb HG3 HB3
      refine (HFi.out _ HG4.out).mono ?_
      rintro e y5 ⟨rfl, hk⟩
      have HG5 := Lib.hid (HG4.out.stay hk)
      have HB5 := Lib.hid (HB4.out.keep0 hk)
      have HC5 := Lib.hid (HC4.out.keep0 hk)
      clear hk HFi HG4 HB4 HC4
      go_wp2_with fail
      have hk : Kept [] y5 (y5.alloc (.cells #[.int .i64 fx, .int .i64 fy] 29)) := (Kept.refl [] y5).alloc _
      have hb : Has (y5.alloc (.cells #[.int .i64 fx, .int .i64 fy] 29)) y5.heap.size 29 [.int .i64 fx, .int .i64 fy] := Has.new y5 _ [.int .i64 fx, .int .i64 fy]
      generalize y5.alloc (.cells #[.int .i64 fx, .int .i64 fy] 29) = y6 at *
      generalize y5.heap.size = b17 at *
      have HG6 := Lib.hid (HG5.out.stay hk)
      have HB6 := Lib.hid (HB5.out.keep0 hk)
      have HC6 := Lib.hid (HC5.out.keep0 hk)
      have HD6 := Lib.hid hb
      clear hk hb HG5 HB5 HC5
      refine (HRFi.out _ HG6.out).mono ?_
      rintro e y7 ⟨rfl, hk⟩
      have HG7 := Lib.hid (HG6.out.stay hk)
      have HB7 := Lib.hid (HB6.out.keep0 hk)
      have HC7 := Lib.hid (HC6.out.keep0 hk)
      have HD7 := Lib.hid (HD6.out.keep0 hk)
      clear hk HRFi HG6 HB6 HC6 HD6
      go_wp2_with fail
      have hk : Kept [] y7 (y7.alloc (.cells #[.int .i64 fx, .int .i64 fy] 29)) := (Kept.refl [] y7).alloc _
      have hb : Has (y7.alloc (.cells #[.int .i64 fx, .int .i64 fy] 29)) y7.heap.size 29 [.int .i64 fx, .int .i64 fy] := Has.new y7 _ [.int .i64 fx, .int .i64 fy]
      generalize y7.alloc (.cells #[.int .i64 fx, .int .i64 fy] 29) = y8 at *
      generalize y7.heap.size = b19 at *
      have HG8 := Lib.hid (HG7.out.stay hk)
      have HB8 := Lib.hid (HB7.out.keep0 hk)
      have HC8 := Lib.hid (HC7.out.keep0 hk)
      have HD8 := Lib.hid (HD7.out.keep0 hk)
      have HE8 := Lib.hid hb
      clear hk hb HG7 HB7 HC7 HD7
      have hfew := fine_few HG8.out.1.fine
      have cells : Hid (∀ z, Kept [] y8 z → Cs z b13 b15 b17 b19 r rp ox oy fx fy) := Lib.hid fun z hz => ⟨(HB8.out.keep0 hz).cell 0, (HB8.out.keep0 hz).cell 1, (HC8.out.keep0 hz).cell 0, (HC8.out.keep0 hz).cell 1, (HD8.out.keep0 hz).cell 0, (HD8.out.keep0 hz).cell 1, (HE8.out.keep0 hz).cell 0, (HE8.out.keep0 hz).cell 1, (HG8.out.2.1.keep0 hz).c0⟩
      have C1 : Hid (∀ y, Kept [] y8 y → Calls Try.prog 19 #[.pointer (some ⟨p, 0, none⟩)] y fun e z => ∃ v, e = .returned v ∧ OwnR z v rs ∧ Kept [] y8 z ∧ Cs z b13 b15 b17 b19 r rp ox oy fx fy) := Lib.hid fun y hy => (Sx.list (HG8.out.1.stay hy)).mono fun e z ⟨v, he, ho, _, hk⟩ => ⟨v, he, ho, hy.trans hk, cells.out z (hy.trans hk)⟩
      have C2 : Hid (∀ v x y, OwnR x v rs → Kept [] y8 x → Kept [] x y → Calls Try.prog 20 #[.pointer (some ⟨r, 0, none⟩)] y fun e z => ∃ v2, e = .returned v2 ∧ OwnR z v rs ∧ OwnR z v2 rs ∧ Kept [] y8 z ∧ Cs z b13 b15 b17 b19 r rp ox oy fx fy) := Lib.hid fun v x y ho hx hy => (listR_ok y (HG8.out.2.1.keep0 (hx.trans hy)) HG8.out.1.fine).mono fun e z ⟨v2, he, ho2, _, hk⟩ => ⟨v2, he, ho.keep0 (hy.trans hk), ho2, (hx.trans hy).trans hk, cells.out z ((hx.trans hy).trans hk)⟩
      have C3 : Hid (∀ v v2 x y, OwnR x v rs → OwnR x v2 rs → Kept [] y8 x → Kept [] x y → Calls Try.prog 18 #[v, v2] y fun e z => e = .returned (.bool true) ∧ Kept [] y8 z ∧ Cs z b13 b15 b17 b19 r rp ox oy fx fy) := Lib.hid fun v v2 x y ho ho2 hx hy => by
        have h := sameRuns_ok y v v2 rs rs (ho.keep0 hy) (ho2.keep0 hy) hfew hfew
        rw [decide_eq_true rfl] at h
        exact h.mono fun e z ⟨he, k, hz⟩ => by
          have hk : Kept [] y8 z := by rw [hz]; exact (hx.trans hy).drewN k
          exact ⟨he, hk, cells.out z hk⟩
      have C4 : Hid (∀ x y, Kept [] y8 x → Kept [] x y → Calls Try.prog 21 #[.pointer (some ⟨p, 0, none⟩)] y fun e z => e = .returned (.int .i64 ((total rs : Nat) : Int)) ∧ Kept [] y8 z ∧ Cs z b13 b15 b17 b19 r rp ox oy fx fy) := Lib.hid fun x y hx hy => (Sx.total (HG8.out.1.stay (hx.trans hy))).mono fun e z ⟨he, hk⟩ => ⟨he, (hx.trans hy).trans hk, cells.out z ((hx.trans hy).trans hk)⟩
      have C5 : Hid (∀ x y, Kept [] y8 x → Kept [] x y → Calls Try.prog 22 #[.pointer (some ⟨r, 0, none⟩)] y fun e z => e = .returned (.int .i64 ((total rs : Nat) : Int)) ∧ Kept [] y8 z ∧ Cs z b13 b15 b17 b19 r rp ox oy fx fy) := Lib.hid fun x y hx hy => (totalR_ok y (HG8.out.2.1.keep0 (hx.trans hy)) HG8.out.1.fine).mono fun e z ⟨he, hk⟩ => ⟨he, (hx.trans hy).trans hk, cells.out z ((hx.trans hy).trans hk)⟩
      have C6 : Hid (∀ x y, Kept [] y8 x → Kept [] x y → Calls Try.prog 23 #[.pointer (some ⟨p, 0, none⟩), .int .i64 i] y fun e z => e = .returned (.bool (hasI rs i)) ∧ Kept [] y8 z ∧ Cs z b13 b15 b17 b19 r rp ox oy fx fy) := Lib.hid fun x y hx hy => (Sx.hasN (HG8.out.1.stay (hx.trans hy)) i).mono fun e z ⟨he, hk⟩ => ⟨he, (hx.trans hy).trans hk, cells.out z ((hx.trans hy).trans hk)⟩
      have C7 : Hid (∀ x y, Kept [] y8 x → Kept [] x y → Calls Try.prog 24 #[.pointer (some ⟨rp, 0, none⟩), .int .i64 i] y fun e z => e = .returned (.bool (hasI rs i)) ∧ Kept [] y8 z ∧ Cs z b13 b15 b17 b19 r rp ox oy fx fy) := Lib.hid fun x y hx hy => (refHasR_ok y (HG8.out.2.1.keep0 (hx.trans hy)) HG8.out.1.fine i i1 i2).mono fun e z ⟨he, hz⟩ => ⟨he, by rw [← hz]; exact hx.trans hy, cells.out z (by rw [← hz]; exact hx.trans hy)⟩
      have C8 : Hid (∀ x y, Kept [] y8 x → Kept [] x y → Calls Try.prog 7 #[] y fun e z => e = .returned (.bool true) ∧ Kept [] y8 z ∧ Cs z b13 b15 b17 b19 r rp ox oy fx fy) := Lib.hid fun x y hx hy => (HA.out y).mono fun e z ⟨he, hk⟩ => ⟨he, (hx.trans hy).trans hk, cells.out z ((hx.trans hy).trans hk)⟩
      have HW := Lib.hid HG8.out.1.world
      obtain ⟨q0, q1, q2, q3, q4, q5, q6, q7, q8⟩ := cells.out y8 (Kept.refl _ _)
      clear cells HG8 HB8 HC8 HD8 HE8 HA
      generalize total rs = tt at *
      generalize hasI rs i = hh at *
      go_region_held3 (fun y => y.cell? ⟨b13, 0, none⟩ = some (.int .i64 ox) ∧ y.cell? ⟨b13, 1, none⟩ = some (.int .i64 oy) ∧ y.cell? ⟨b15, 0, none⟩ = some (.int .i64 ox) ∧ y.cell? ⟨b15, 1, none⟩ = some (.int .i64 oy) ∧ y.cell? ⟨b17, 0, none⟩ = some (.int .i64 fx) ∧ y.cell? ⟨b17, 1, none⟩ = some (.int .i64 fy) ∧ y.cell? ⟨b19, 0, none⟩ = some (.int .i64 fx) ∧ y.cell? ⟨b19, 1, none⟩ = some (.int .i64 fy) ∧ y.cell? ⟨r, 0, none⟩ = some (.pointer (some ⟨rp, 0, none⟩))) (go_keep)
        (first
          | (go_at_call 19; refine (C1.out _ ?_).mono ?_; (first | exact Kept.refl _ _ | exact (Kept.refl _ _).drewN _); rintro e z1 ⟨v1, rfl, ho1, hz1, s10, s11, s12, s13, s14, s15, s16, s17, s18⟩)
          | (go_at_call 20; refine (C2.out _ _ _ ho1 hz1 ?_).mono ?_; (first | exact Kept.refl _ _ | exact (Kept.refl _ _).drewN _); rintro e z2 ⟨v2, rfl, ho2, ho3, hz2, s20, s21, s22, s23, s24, s25, s26, s27, s28⟩)
          | (go_at_call 18; refine (C3.out _ _ _ _ ho2 ho3 hz2 ?_).mono ?_; (first | exact Kept.refl _ _ | exact (Kept.refl _ _).drewN _); rintro e z3 ⟨rfl, hz3, s30, s31, s32, s33, s34, s35, s36, s37, s38⟩)
          | (go_at_call 21; refine (C4.out _ _ hz3 ?_).mono ?_; (first | exact Kept.refl _ _ | exact (Kept.refl _ _).drewN _); rintro e z4 ⟨rfl, hz4, s40, s41, s42, s43, s44, s45, s46, s47, s48⟩)
          | (go_at_call 22; refine (C5.out _ _ hz4 ?_).mono ?_; (first | exact Kept.refl _ _ | exact (Kept.refl _ _).drewN _); rintro e z5 ⟨rfl, hz5, s50, s51, s52, s53, s54, s55, s56, s57, s58⟩)
          | (go_at_call 23; refine (C6.out _ _ hz5 ?_).mono ?_; (first | exact Kept.refl _ _ | exact (Kept.refl _ _).drewN _); rintro e z6 ⟨rfl, hz6, s60, s61, s62, s63, s64, s65, s66, s67, s68⟩)
          | (go_at_call 24; refine (C7.out _ _ hz6 ?_).mono ?_; (first | exact Kept.refl _ _ | exact (Kept.refl _ _).drewN _); rintro e z7 ⟨rfl, hz7, s70, s71, s72, s73, s74, s75, s76, s77, s78⟩)
          | (go_at_call 7; refine (C8.out _ _ hz7 ?_).mono ?_; (first | exact Kept.refl _ _ | exact (Kept.refl _ _).drewN _); rintro e z8 ⟨rfl, hz8, s80, s81, s82, s83, s84, s85, s86, s87, s88⟩))
      all_goals
        have HK := Lib.hid (HW.out.trans hz8)
        clear hz8 hz7 hz6 hz5 hz4 hz3 hz2 hz1
        go_wp2_with fail
        go_ret
        exact ⟨rfl, HK.out⟩
theorem play_any (A : Option Addr) (L : List Stp) (cap : Nat) (i n fr : Int) (w : World) (hc : L.length ≤ cap) (hm : cap ≤ maxLen) (hst : Steps w A L) (hoks : ∀ s ∈ L, s.ok)
    (i1 : -9223372036854775808 ≤ i) (i2 : i ≤ 9223372036854775807) (n1 : -9223372036854775808 ≤ n) (n2 : n ≤ 9223372036854775807) (f1 : -9223372036854775808 ≤ fr) (f2 : fr ≤ 9223372036854775807) :
    Calls Try.prog 3 #[.slice A L.length cap, .int .i64 i, .int .i64 n, .int .i64 fr] w fun e w' => e = .returned (.bool true) ∧ Kept [] w w' := by
  by_cases h : L.length ≤ 60
  · exact play_walk A L cap i n fr w h hst hoks i1 i2 n1 n2 f1 f2
  · exact play_long A L.length cap i n fr w (by omega) (by omega)
end Go.Proofs.Ytbgonppichdhiaa.Rn
