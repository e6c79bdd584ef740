/-
  The law ShapeMakes, walked.
-/
import Derived.Test.YtpnjblledbihcaaDoorShMadeFacts
import Derived.Test.YtpnjblledbihcaaDoorShAlive
import Derived.Test.YtpnjblledbihcaaDoorShLaid
import Derived.Test.YtpnjblledbihcaaDoorShDocMake
namespace Go.Proofs.YtpnjblledbihcaaDoor.Sh
open Go.RowKit Go.Proofs.YtpnjblledbihcaaDoor.Ar
open Go.Proofs.YtpnjblledbihcaaDoor.Hd (Hd Fields newF_fit)
open Go.Proofs.YtpnjblledbihcaaDoor.Tb (Ty Tab Made NewPost newF newF_len)
set_option linter.unusedVariables false

set_option maxRecDepth 100000 in
set_option maxHeartbeats 1000000 in
theorem makes_long {w : World} (hF : Fields w) {A B : Option Addr} {c d m k : Nat} (h : (m : Int) > 300 ∨ (k : Int) > 70) (hm : m ≤ maxLen) (hk : k ≤ maxLen) (g i n : Int) :
    Calls Tryd.prog 5 #[.slice A m c, .slice B k d, .int .i64 g, .int .i64 i, .int .i64 n] w fun e w' => e = .returned (.bool true) ∧ Kept [] w w' := by
  have HAl := Lib.hid (fun y (k : Kept [] w y) => alive_ok (hF.keep0 k))
  have K0 := Lib.hid (Kept.refl [] w)
  have hm' : m ≤ 9223372036854775807 := by unfold maxLen at hm; omega
  have hk' : k ≤ 9223372036854775807 := by unfold maxLen at hk; omega
  clear hF hm hk
  by_cases h1 : (m : Int) > 300
  · clear h
    go_enter Tryd.func5, Tryd.ntmps5
    go_wp2_with fail
    refine (HAl.out _ K0.out).mono ?_
    rintro e xz ⟨rfl, kz⟩
    have Kz := Lib.hid (K0.out.trans kz)
    clear kz HAl
    go_wp2_with fail
    go_ret
    exact ⟨rfl, Kz.out⟩
  · have h2 : (k : Int) > 70 := by omega
    clear h
    go_enter Tryd.func5, Tryd.ntmps5
    go_wp2_with fail
    refine (HAl.out _ K0.out).mono ?_
    rintro e xz ⟨rfl, kz⟩
    have Kz := Lib.hid (K0.out.trans kz)
    clear kz HAl
    go_wp2_with fail
    go_ret
    exact ⟨rfl, Kz.out⟩

set_option maxRecDepth 100000 in
set_option maxHeartbeats 8000000 in
theorem makes_main {w : World} (hF : Fields w) {A B : Option Addr} {c d : Nat} {ws : List Int} {l : List Ty} (hn : A = none → c = 0) (hS : Seen w A ws) (hlc : ws.length ≤ c) (hl : ¬ (ws.length : Int) > 300) (hw : Wm ws) (hL : Tb.Seen w B l) (hok : ∀ x ∈ l, x.ok) (hll : ¬ (l.length : Int) > 70) (g i n : Int)
    (g0 : -9223372036854775808 ≤ g) (g1 : g ≤ 9223372036854775807) (i0 : -9223372036854775808 ≤ i) (i1 : i ≤ 9223372036854775807) :
    Calls Tryd.prog 5 #[.slice A ws.length c, .slice B l.length d, .int .i64 g, .int .i64 i, .int .i64 n] w fun e w' => e = .returned (.bool true) ∧ Kept [] w w' := by
  have HFd := Lib.hid hF
  have HAl := Lib.hid (fun y (k : Kept [] w y) => alive_ok (hF.keep0 k))
  have HLd := Lib.hid (laid_any (c := c) hS)
  have HNw := Lib.hid (fun y (k : Kept [] w y) => Tb.new_ok d (hL.keep0 k) hok (by omega))
  have HDm := Lib.hid (fun y (k : Kept [] w y) (hfit : ∀ x ∈ l, x.ok ∧ x.fit) (hlen : l.length ≤ 64) => dmake_any (d := d) hn (hS.keep0 k) hlc (by omega) (hL.keep0 k) hfit hlen g i n i0 i1)
  have Hw := Lib.hid hw
  have Hok := Lib.hid hok
  clear hF hS hn hw hL hok
  go_enter Tryd.func5, Tryd.ntmps5
  go_wp2_with fail
  refine HLd.out.mono ?_
  rintro e x1 ⟨hk1, ⟨_, rfl⟩ | ⟨_, p, q, m1, rfl, hp, hq, ha⟩⟩
  · have K1 := Lib.hid hk1
    clear hk1 HLd
    go_wp2_with fail
    refine (HNw.out _ K1.out).mono ?_
    rintro e x2 (⟨_, tp, A1, c1, rfl, hm⟩ | ⟨_, rfl, k2⟩)
    · have K2 := Lib.hid (K1.out.trans hm.2.2.2)
      clear hm HNw
      go_wp2_with fail
      refine (HAl.out _ K2.out).mono ?_
      rintro e xz ⟨rfl, kz⟩
      have Kz := Lib.hid (K2.out.trans kz)
      clear kz HAl
      go_wp2_with fail
      go_ret
      exact ⟨rfl, Kz.out⟩
    · have K2 := Lib.hid (K1.out.trans k2)
      clear k2 HNw
      generalize (newF [] l).2 = ne at *
      go_wp2_with fail
      refine (HAl.out _ K2.out).mono ?_
      rintro e xz ⟨rfl, kz⟩
      have Kz := Lib.hid (K2.out.trans kz)
      clear kz HAl
      go_wp2_with fail
      go_ret
      exact ⟨rfl, Kz.out⟩
  · have K1 := Lib.hid hk1
    have HA1 := Lib.hid (And.intro ha (And.intro hp hq))
    clear hk1 ha hp hq HLd
    go_wp2_with fail
    refine (HNw.out _ K1.out).mono ?_
    rintro e x2 (⟨h0, tp, A1, c1, rfl, hm⟩ | ⟨h0, rfl, k2⟩)
    · have e1 := newF_len [] h0
      rw [List.nil_append] at e1
      have hfit := newF_fit [] h0
      have hm2 : Made x1 x2 tp A1 c1 l := by rw [e1] at hm; exact hm
      have hl64 := hm2.1.len
      have HB := Lib.hid (both_of K1.out HA1.out.1 HA1.out.2.1 HA1.out.2.2 hm2 Hw.out)
      have hmk := both_make HFd.out HB.out g i n g0 g1 i0 i1
      have hdm := fun y (k : Kept [] w y) => HDm.out y k (fun x hx => ⟨Hok.out x hx, hfit x hx⟩) hl64
      unfold DMakePost at hdm
      have hla : Hid (makeE ws.length l g i n = 0 → ∃ gn sz, MadeAt ws l g i n gn sz) := Lib.hid fun h => made_at hl64 h
      have hwl : (makeW ws l g i n).length = ws.length := makeW_length hl64
      have Hl64 := Lib.hid hl64
      generalize hws : makeW ws l g i n = ws' at *
      generalize her : makeE ws.length l g i n = er at *
      rw [hwl] at hdm
      have HMk := Lib.hid hmk
      have HDk := Lib.hid hdm
      have Hwl := Lib.hid hwl
      have Hws := Lib.hid hws
      clear h0 e1 hfit hm hm2 hmk hdm hwl hws her HNw HDm HA1 K1 Hok HB hl64
      go_wp2_with fail
      refine HMk.out.mono ?_
      rintro e x3 ⟨rfl, hb3, _⟩
      have HB3 := Lib.hid hb3
      clear hb3 HMk
      go_wp2_with fail
      refine (HDk.out _ HB3.out.kept).mono ?_
      rintro e x4 ⟨A4, c4, rfl, hs4, k4⟩
      have HB4 := Lib.hid (HB3.out.keep0 k4)
      have HS4 := Lib.hid hs4
      clear hs4 k4 HB3 HDk
      have hwd := words_any HB4.out.ar.choose_spec
      rw [Hwl.out] at hwd
      have HWd := Lib.hid hwd
      clear hwd
      have hee : (er != er) = false := by simp
      go_wp2_with fail
      refine HWd.out.mono ?_
      rintro e x5 ⟨A5, rfl, hs5, k5⟩
      have HB5 := Lib.hid (HB4.out.keep0 k5)
      have hsm := sameW_any A5 A4 ws' ws' ws.length c4 x5 hs5 (HS4.out.keep0 k5) (by rw [Hwl.out]; omega) (by rw [Hwl.out]; omega)
      rw [sameB_self, Hwl.out] at hsm
      have HSm := Lib.hid hsm
      clear hsm hs5 k5 HB4 HWd HS4
      go_wp2_with fail
      refine HSm.out.mono ?_
      rintro e x6 ⟨rfl, k, rfl⟩
      have HB6 := Lib.hid (HB5.out.keep0 ((Kept.refl [] x5).drewN k))
      clear HSm HB5
      generalize x5.drewN k = x6 at *
      go_wp2_with fail
      refine (make_nil _ g i n).mono ?_
      rintro e x7 ⟨rfl, rfl⟩
      by_cases hz : er = 0
      · obtain ⟨gn, sz, hM⟩ := hla.out hz
        have hv := both_view HFd.out HB6.out g g0 g1
        rw [← Hws.out, hM.of, hM.dec.2, hM.ty] at hv
        have hk := getT_ok HB6.out.tab i
        have hsb := Kd.slots_bound hM.err
        obtain ⟨sl, hsl⟩ := Int.eq_ofNat_of_zero_le hsb.1
        have hos : ofS (makeW ws l g i n) l g = (sl : Int) := by
          unfold ofS Kd.slotsR
          rw [hM.ty, hM.dec.2]
          simp only
          rw [if_pos hM.err, hsl]
        rw [hos] at hv
        have hroom : 2 * gn + 1 + sl ≤ (makeW ws l g i n).length := by
          have a1 := hM.sz'
          have a2 := hM.isin
          have a3 := hM.gEq
          rw [hM.len]
          omega
        have hnone := hM.none sl hsl (Tb.getT l i)
        have hplen := pairs_length (makeW ws l g i n) (gn : Int) (Tb.getT l i) sl
        have HSrc : Hid (∀ y v, Vw w y v p q tp A1 c1 l (makeW ws l g i n) g ⟨1, i, n, sz⟩ (Tb.getT l i) (sl : Int) → Src y (some ⟨v, 0, none⟩) (pairs (makeW ws l g i n) (gn : Int) (Tb.getT l i) sl)) := Lib.hid fun y v H => src_of H hM.gEq hk.1 hk.2 hM.err hsl hroom
        have HNone := Lib.hid hnone
        have HPl : Hid ((pairs (makeW ws l g i n) (gn : Int) (Tb.getT l i) sl).length ≤ 65536) := Lib.hid (by omega)
        have HV := Lib.hid hv
        clear hv hk hsb hos hroom hnone hplen hsl hM hla
        subst hz
        clear hee
        go_wp2_with fail
        refine HV.out.mono ?_
        rintro e x8 ⟨_, ⟨h0, _⟩ | ⟨_, v, rfl, hvw⟩⟩
        · exact absurd rfl h0
        · have HVw := Lib.hid hvw
          clear hvw HV HB6
          have hh := fun y (k : Kept [] x8 y) => vhead_ok (HVw.out.view.keep0 k)
          unfold Hd.val at hh
          simp only at hh
          have HH := Lib.hid hh
          clear hh
          have hf1 : ∀ y : World, (Instr.field 37 (.agg #[.int .u8 1, .int .i64 i, .int .i64 n, .int .i64 sz]) 1).run Tryd.prog y = .ok (.int .i64 i) y := fun _ => by kernel_rfl
          have hf2 : ∀ y : World, (Instr.field 37 (.agg #[.int .u8 1, .int .i64 i, .int .i64 n, .int .i64 sz]) 2).run Tryd.prog y = .ok (.int .i64 n) y := fun _ => by kernel_rfl
          go_wp2_with fail
          refine (HH.out _ (Kept.refl [] x8)).mono ?_
          rintro e x9 ⟨rfl, k9⟩
          have K9 := Lib.hid k9
          clear k9
          go_wp2_with fail
          refine (HH.out _ K9.out).mono ?_
          rintro e x10 ⟨rfl, k10⟩
          have K10 := Lib.hid (K9.out.trans k10)
          have htg := vtargets_ok x10 _ _ (HSrc.out _ _ (HVw.out.keep0 K10.out)) HPl.out
          rw [HNone.out] at htg
          have HTg := Lib.hid htg
          clear k10 K9 HH htg
          go_wp2_with fail
          refine HTg.out.mono ?_
          rintro e x11 ⟨tv, rfl, hO, _, k11⟩
          obtain ⟨B1, cb, rfl, _⟩ := back_own (Kept.refl [] x11) hO
          have Kz11 := Lib.hid (HVw.out.both.kept.trans (K10.out.trans k11))
          clear hO k11 HTg K10 HVw HSrc
          go_wp2_with fail
          refine (HAl.out _ Kz11.out).mono ?_
          rintro e xz ⟨rfl, kz⟩
          have Kz := Lib.hid (Kz11.out.trans kz)
          clear kz HAl
          go_wp2_with fail
          go_ret
          exact ⟨rfl, Kz.out⟩
      · have hzb : (er != 0) = true := by rw [bne_iff_ne]; exact hz
        have K6 := Lib.hid HB6.out.kept
        clear HB6
        go_wp2_with fail
        refine (HAl.out _ K6.out).mono ?_
        rintro e xz ⟨rfl, kz⟩
        have Kz := Lib.hid (K6.out.trans kz)
        clear kz HAl
        go_wp2_with fail
        go_ret
        exact ⟨rfl, Kz.out⟩
    · have hbn : ((newF [] l).2 != 0) = true := by rw [bne_iff_ne]; exact h0
      have K2 := Lib.hid (K1.out.trans k2)
      clear k2 HNw h0
      generalize (newF [] l).2 = ne at *
      go_wp2_with fail
      refine (HAl.out _ K2.out).mono ?_
      rintro e xz ⟨rfl, kz⟩
      have Kz := Lib.hid (K2.out.trans kz)
      clear kz HAl
      go_wp2_with fail
      go_ret
      exact ⟨rfl, Kz.out⟩
theorem makes_walk {w : World} (hF : Fields w) {A B : Option Addr} {c d : Nat} {ws : List Int} {l : List Ty} (hn : A = none → c = 0) (hlc : ws.length ≤ c) (hcm : c ≤ maxLen) (hS : Seen w A ws) (hw : Wm ws) (hld : l.length ≤ d) (hdm : d ≤ maxLen) (hL : Tb.Seen w B l) (hok : ∀ x ∈ l, x.ok) (g i n : Int)
    (g0 : -9223372036854775808 ≤ g) (g1 : g ≤ 9223372036854775807) (i0 : -9223372036854775808 ≤ i) (i1 : i ≤ 9223372036854775807) :
    Calls Tryd.prog 5 #[.slice A ws.length c, .slice B l.length d, .int .i64 g, .int .i64 i, .int .i64 n] w fun e w' => e = .returned (.bool true) ∧ Kept [] w w' := by
  by_cases h : (ws.length : Int) > 300 ∨ (l.length : Int) > 70
  · exact makes_long hF h (Nat.le_trans hlc hcm) (Nat.le_trans hld hdm) g i n
  · exact makes_main hF hn hS hlc (fun hh => h (.inl hh)) hw hL hok (fun hh => h (.inr hh)) g i n g0 g1 i0 i1
end Go.Proofs.YtpnjblledbihcaaDoor.Sh
