/-
  The walk of the law ArenaPlays.
-/
import Derived.Test.YtaginjpdpjehoaaArDoes
namespace Go.Proofs.Ytaginjpdpjehoaa.Ar
open Go.RowKit

/-- Where the law stands between two steps. -/
def Good (w x : World) (p q r g cap : Nat) (ws : List Int) (n : Int) : Prop := Pair x p q r g cap ws n ∧ w.heap.size ≤ p ∧ w.heap.size ≤ q ∧ w.heap.size ≤ r ∧ Kept [] w x
def Next (w x : World) (p q r : Nat) (vs : List Int) (m : Int) : Prop := ∃ g cap, Good w x p q r g cap vs m
theorem Good.stay {w x y : World} {p q r g cap : Nat} {ws : List Int} {n : Int} (h : Good w x p q r g cap ws n) (k : Kept [] x y) : Good w y p q r g cap ws n :=
  ⟨h.1.keep0 k, h.2.1, h.2.2.1, h.2.2.2.1, h.2.2.2.2.trans k⟩
theorem does_next {w x : World} {p q r g cap : Nat} {ws : List Int} {n : Int} (h : Good w x p q r g cap ws n) (s : Stp) (hs : s.ok) :
    Calls Try.prog 15 #[.pointer (some ⟨p, 0, none⟩), .pointer (some ⟨r, 0, none⟩), .agg #[.int .i64 s.d, .int .i64 s.a, .int .i64 s.t, .int .i64 s.n, .int .u64 s.v]] x fun e y => e = .returned (.bool true) ∧ y.cell? ⟨r, 1, none⟩ = some (.int .u64 (stepN ws n s)) ∧ Next w y p q r (stepW ws s) (stepN ws n s) := by
  refine (does_any h.1 s hs).mono ?_
  rintro e y ⟨rfl, g', cap', hP, hK⟩
  refine ⟨rfl, hP.rf.c1, g', cap', hP, h.2.1, h.2.2.1, h.2.2.2.1, h.2.2.2.2.forget hK fun i hi => ?_⟩
  obtain ⟨_, h2, h3, h4, _⟩ := h
  simp at hi
  omega
theorem next_writes {w y z : World} {p q r : Nat} {vs : List Int} {m : Int} (h : Next w y p q r vs m) (hk : Kept [] y z) :
    Calls Try.prog 16 #[.pointer (some ⟨p, 0, none⟩)] z fun e z' => e = .returned (.int .u64 m) ∧ z = z' := by
  obtain ⟨g, cap, hG⟩ := h
  exact writes_any (hG.1.ar.keep0 hk)
/-- The old one is played with; a copy goes on. -/
theorem Good.copied {w x y z : World} {p q r g cap p2 q2 : Nat} {ws : List Int} {n : Int} (h : Good w x p q r g cap ws n) (h1 : x.heap.size ≤ p2) (h2 : x.heap.size ≤ q2) (hA : Arena y p2 q2 ws n) (hK : Kept [] x y) (hK2 : Kept [p, q] y z) : Good w z p2 q2 r g cap ws n := by
  have hp := h.1.ar.head.lt
  have hq := h.1.ar.row.lt
  have hg := h.1.rf.lt
  have e1 := h.1.pr
  have e2 := h.1.pg
  have e3 := h.1.qr
  have e4 := h.1.apart
  have hm := h.2.2.2.2.more
  refine ⟨⟨hA.kept hK2 (by simp; omega) (by simp; omega), (h.1.rf.keep0 hK).kept hK2 (by simp; omega) (by simp; omega), by omega⟩, by omega, by omega, h.2.2.2.1, (h.2.2.2.2.trans hK).forget hK2 fun i hi => ?_⟩
  obtain ⟨_, h5, h6, _, _⟩ := h
  simp at hi
  omega
/-- A step of a row that came in, read in a later world. -/
theorem Steps.later {w : World} {A : Option Addr} {L : List Stp} (h : Steps w A L) (hne : L ≠ []) : ∃ g f, A = some ⟨g, f, none⟩ ∧ ∀ x, Kept [] w x → ∀ j s, L[j]? = some s → ∀ k v, s.cells[k]? = some v → x.cell? ⟨g, f + (j * 5 + k), none⟩ = some v := by
  obtain ⟨g, f, e, hg, hc⟩ := h hne
  exact ⟨g, f, e, fun x hx j s hj k v hv => (World.cell?_of_block (w := w) (hx.old g hg (by simp))).trans (hc j s hj k v hv)⟩

set_option maxRecDepth 100000 in
set_option maxHeartbeats 800000 in
theorem plays_small (c : Int) (A : Option Addr) (m cap : Nat) (w : World) (hm : 80 < m ∨ (600 < c ∧ c ≤ 65536)) (hl : m ≤ maxLen) :
    Calls Try.prog 3 #[.int .i64 c, .slice A m cap] w fun e w' => e = .returned (.bool true) ∧ Kept [] w w' := by
  unfold maxLen at hl
  have HA := Lib.hid alive_any
  by_cases h1 : 80 < m
  · clear hm
    go_enter Try.func3, Try.ntmps3
    go_wp2_with fail
    refine (HA.out _).mono ?_; rintro e w' ⟨rfl, hk⟩
    have HK := Lib.hid hk
    clear hk
    go_wp2_with fail
    go_ret
    exact ⟨rfl, HK.out⟩
  · have h2 : 600 < c := by omega
    have h3 : c ≤ 65536 := by omega
    clear hm
    go_enter Try.func3, Try.ntmps3
    go_wp2_with fail
    refine (HA.out _).mono ?_; rintro e w' ⟨rfl, hk⟩
    have HK := Lib.hid hk
    clear hk
    go_wp2_with fail
    go_ret
    exact ⟨rfl, HK.out⟩
set_option maxRecDepth 100000 in
set_option maxHeartbeats 800000 in
theorem plays_bad (c : Int) (A : Option Addr) (m cap : Nat) (w : World) (hm : m ≤ 80) (hc : c ≤ 600 ∨ 65536 < c) (hb : mayB c = false) :
    Calls Try.prog 3 #[.int .i64 c, .slice A m cap] w fun e w' => e = .returned (.bool true) ∧ Kept [] w w' := by
  have HA := Lib.hid alive_any
  have H1 := Lib.hid (new_bad c hb w)
  have h2 := may_any c w
  rw [hb] at h2
  have H2 := Lib.hid h2
  clear h2 hb
  rcases hc with hc | hc
  all_goals
    go_enter Try.func3, Try.ntmps3
    go_wp2_with fail
    refine H1.out.mono ?_; rintro e w' ⟨rfl, rfl⟩
    go_wp2_with fail
    refine H2.out.mono ?_; rintro e w' ⟨rfl, rfl⟩
    go_wp2_with fail
    refine (HA.out _).mono ?_; rintro e w' ⟨rfl, hk⟩
    have HK := Lib.hid hk
    clear hk
    go_wp2_with fail
    go_ret
    exact ⟨rfl, HK.out⟩

set_option maxRecDepth 100000 in
set_option maxHeartbeats 3200000 in
theorem plays_good (c : Nat) (A : Option Addr) (L : List Stp) (cap0 : Nat) (w : World) (hL : L.length ≤ 80) (hc : c ≤ 600) (hb : mayB (c : Int) = true) (hst : Steps w A L) (hoks : ∀ s ∈ L, s.ok) :
    Calls Try.prog 3 #[.int .i64 c, .slice A L.length cap0] w fun e w' => e = .returned (.bool true) ∧ Kept [] w w' := by
  have HA := Lib.hid alive_any
  obtain ⟨b1, _, _⟩ := (mayB_iff _).1 hb
  have H1 := Lib.hid (new_ok c hb w)
  have h2 := fun x => may_any (c : Int) x
  rw [hb] at h2
  have H2 := Lib.hid h2
  have H3 := Lib.hid (fun x => refNew_any c (by omega) (by omega) x)
  have HS := Lib.hid hst
  have HO := Lib.hid hoks
  clear h2 hb hst hoks
  go_enter Try.func3, Try.ntmps3
  go_wp2_with fail
  refine H1.out.mono ?_; rintro e x0 ⟨p, q, rfl, hp, hq, hAr, hK⟩
  have HAr := Lib.hid hAr
  have HK := Lib.hid (And.intro hp (And.intro hq hK))
  clear hp hq hAr hK H1
  go_wp2_with fail
  refine (H2.out _).mono ?_; rintro e w' ⟨rfl, rfl⟩
  have hlen := len_any HAr.out
  rw [List.length_replicate] at hlen
  have HLen := Lib.hid hlen
  clear hlen H2
  go_wp2_with fail
  refine HLen.out.mono ?_; rintro e w' ⟨rfl, rfl⟩
  clear HLen
  go_wp2_with fail
  refine (H3.out _).mono ?_; rintro e x1 ⟨r, g, rfl, hr, hg, hRf, hK1⟩
  have HG0 : Hid (Good w x1 p q r g c (List.replicate c 0) 0) := by
    obtain ⟨hp, hq, hK⟩ := HK.out
    have hm := hK.more
    have hql := HAr.out.row.lt
    exact ⟨⟨HAr.out.keep0 hK1, hRf, by omega⟩, hp, hq, by omega, hK.trans hK1⟩
  clear hr hg hRf hK1 HAr HK H3
  go_wp2_with fail
  go_loopw [5, 8] (fun a t wr => ∃ (j p q g cap : Nat) (ws : List Int) (n : Int), j ≤ L.length ∧ t = .int .i64 j ∧ a = .pointer (some ⟨p, 0, none⟩) ∧ Hid (Good w wr p q r g cap ws n)) (fun _ t _ => L.length - (intOf t).toNat)
  case atStart => exact ⟨0, p, q, g, c, _, _, Nat.zero_le _, rfl, rfl, HG0⟩
  case round =>
    clear HG0
    obtain ⟨j, p, q, g, cap, ws, n, hj, rfl, rfl, hG⟩ := hrel
    by_cases hlt : j < L.length
    · have hne : L ≠ [] := fun h0 => by rw [h0] at hlt; simp at hlt
      obtain ⟨g0, f0, rfl, hcs⟩ := HS.out.later hne
      have HC := Lib.hid hcs
      obtain ⟨s, hsj⟩ : ∃ s, L[j]? = some s := ⟨_, List.getElem?_eq_getElem hlt⟩
      have hok := Lib.hid (HO.out s (List.mem_of_getElem? hsj))
      have hS0 : wr.cell? ⟨g0, f0 + j * 5, none⟩ = some (.int .i64 s.d) := HC.out wr hG.out.2.2.2.2 j s hsj 0 _ rfl
      clear hcs hne
      by_cases hd : s.d = 5
      · have hS4 : ∀ x, Kept [] w x → x.cell? ⟨g0, f0 + j * 5 + 4, none⟩ = some (.int .u64 s.v) := fun x hx => HC.out x hx j s hsj 4 _ rfl
        have HS4 := Lib.hid hS4
        rw [hd] at hS0
        have Hcopy := Lib.hid (copy_any hG.out.1.ar)
        have Hd := Lib.hid hd
        clear hS4 hd
        go_wp2_with fail
        refine Hcopy.out.mono ?_; rintro e y1 ⟨p2, q2, rfl, hp2, hq2, hA2, hK2⟩
        have HA2 := Lib.hid (And.intro hp2 (And.intro hq2 (And.intro hA2 hK2)))
        have Hst := Lib.hid (store_any (hG.out.1.ar.keep0 hK2) 0 77 (by omega) (by omega))
        clear hp2 hq2 hA2 hK2 Hcopy
        go_wp2_with fail
        refine Hst.out.mono ?_; rintro e y2 ⟨rfl, hA3, hK3⟩
        have Hfl := Lib.hid (fill_any hA3 2 4 s.v (by omega) (by omega) (by omega) (by omega))
        have HK3 := Lib.hid hK3
        have c4 := HS4.out y2 ((hG.out.2.2.2.2.trans HA2.out.2.2.2).forget hK3 (by obtain ⟨_, h2, h3, _⟩ := hG.out; intro i hi; simp at hi; omega))
        clear hA3 hK3 Hst hS0
        go_wp2_with fail
        refine Hfl.out.mono ?_; rintro e x ⟨rfl, _, hK4⟩
        have HG := Lib.hid (hG.out.copied HA2.out.1 HA2.out.2.1 HA2.out.2.2.1 HA2.out.2.2.2 (HK3.out.trans hK4))
        clear hK4 HA2 HK3 Hfl c4 HS4 hG
        have HP := Lib.hid (HG.out.1)
        have hcl := HC.out x HG.out.2.2.2.2 j s hsj
        have d0 : x.cell? ⟨g0, f0 + j * 5, none⟩ = some (.int .i64 s.d) := hcl 0 _ rfl
        have d1 : x.cell? ⟨g0, f0 + j * 5 + 1, none⟩ = some (.int .i64 s.a) := hcl 1 _ rfl
        have d2 : x.cell? ⟨g0, f0 + j * 5 + 2, none⟩ = some (.int .i64 s.t) := hcl 2 _ rfl
        have d3 : x.cell? ⟨g0, f0 + j * 5 + 3, none⟩ = some (.int .i64 s.n) := hcl 3 _ rfl
        have d4 : x.cell? ⟨g0, f0 + j * 5 + 4, none⟩ = some (.int .u64 s.v) := hcl 4 _ rfl
        have C15 := Lib.hid (fun (y : World) (hy : Kept [] x y) => does_next (HG.out.stay hy) s hok.out)
        have C16 := Lib.hid (fun (y z : World) (hN : Next w y p2 q2 r (stepW ws s) (stepN ws n s)) (hy : Kept [] y z) => next_writes hN hy)
        generalize stepW ws s = R at *
        generalize stepN ws n s = M at *
        clear HG HP hcl HC
        go_wp2_with fail
        go_region_with (first | (go_at_call 15; refine (C15.out _ ?_).mono ?_; (first | exact Kept.refl _ _ | exact (Kept.refl _ _).drewN _); rintro e y ⟨rfl, k1, hN⟩) | (go_at_call 16; refine (C16.out _ _ hN ?_).mono ?_; (first | exact Kept.refl _ _ | exact (Kept.refl _ _).drewN _); rintro e z ⟨rfl, rfl⟩))
        all_goals
          obtain ⟨g', cap', hG'⟩ := hN
          have HG' := Lib.hid hG'
          clear hG' C15 C16 k1 d0 d1 d2 d3 d4
          go_wp2_with fail
          go_roundw
          case rel => exact ⟨j + 1, p2, q2, g', cap', R, M, by omega, by go_num, rfl, HG'⟩
          case measure => simp [intOf]; omega
      · have hdb : (s.d == 5) = false := beq_eq_false_iff_ne.2 hd
        obtain ⟨x, rfl⟩ : ∃ x, x = wr := ⟨_, rfl⟩
        have HG := hG
        clear hd hG
        have HP := Lib.hid (HG.out.1)
        have hcl := HC.out x HG.out.2.2.2.2 j s hsj
        have d0 : x.cell? ⟨g0, f0 + j * 5, none⟩ = some (.int .i64 s.d) := hcl 0 _ rfl
        have d1 : x.cell? ⟨g0, f0 + j * 5 + 1, none⟩ = some (.int .i64 s.a) := hcl 1 _ rfl
        have d2 : x.cell? ⟨g0, f0 + j * 5 + 2, none⟩ = some (.int .i64 s.t) := hcl 2 _ rfl
        have d3 : x.cell? ⟨g0, f0 + j * 5 + 3, none⟩ = some (.int .i64 s.n) := hcl 3 _ rfl
        have d4 : x.cell? ⟨g0, f0 + j * 5 + 4, none⟩ = some (.int .u64 s.v) := hcl 4 _ rfl
        have C15 := Lib.hid (fun (y : World) (hy : Kept [] x y) => does_next (HG.out.stay hy) s hok.out)
        have C16 := Lib.hid (fun (y z : World) (hN : Next w y p q r (stepW ws s) (stepN ws n s)) (hy : Kept [] y z) => next_writes hN hy)
        generalize stepW ws s = R at *
        generalize stepN ws n s = M at *
        clear HG HP hcl HC hS0
        go_wp2_with fail
        go_region_with (first | (go_at_call 15; refine (C15.out _ ?_).mono ?_; (first | exact Kept.refl _ _ | exact (Kept.refl _ _).drewN _); rintro e y ⟨rfl, k1, hN⟩) | (go_at_call 16; refine (C16.out _ _ hN ?_).mono ?_; (first | exact Kept.refl _ _ | exact (Kept.refl _ _).drewN _); rintro e z ⟨rfl, rfl⟩))
        all_goals
          obtain ⟨g', cap', hG'⟩ := hN
          have HG' := Lib.hid hG'
          clear hG' C15 C16 k1 d0 d1 d2 d3 d4
          go_wp2_with fail
          go_roundw
          case rel => exact ⟨j + 1, p, q, g', cap', R, M, by omega, by go_num, rfl, HG'⟩
          case measure => simp [intOf]; omega
    · have HSame := Lib.hid (lawSame_any hG.out.1)
      obtain rfl : j = L.length := by omega
      have HKw := Lib.hid hG.out.2.2.2.2
      clear hG hlt hj HS HO
      go_wp2_with fail
      refine HSame.out.mono ?_; rintro e y ⟨rfl, hk⟩
      have HK := Lib.hid (HKw.out.trans hk)
      clear hk HKw HSame
      go_wp2_with fail
      refine (HA.out _).mono ?_; rintro e z ⟨rfl, hk⟩
      have HK2 := Lib.hid (HK.out.trans hk)
      clear hk HK
      go_wp2_with fail
      go_ret
      exact ⟨rfl, HK2.out⟩
theorem plays_walk (c : Int) (A : Option Addr) (L : List Stp) (cap : Nat) (w : World) (hL : L.length ≤ maxLen) (hst : Steps w A L) (hoks : ∀ s ∈ L, s.ok) :
    Calls Try.prog 3 #[.int .i64 c, .slice A L.length cap] w fun e w' => e = .returned (.bool true) ∧ Kept [] w w' := by
  by_cases hm : 80 < L.length ∨ (600 < c ∧ c ≤ 65536)
  · exact plays_small c A L.length cap w hm hL
  · cases hb : mayB c
    · exact plays_bad c A L.length cap w (by omega) (by omega) hb
    · obtain ⟨b1, b2, _⟩ := (mayB_iff _).1 hb
      obtain ⟨c, rfl⟩ := Int.eq_ofNat_of_zero_le (show 0 ≤ c by omega)
      exact plays_good c A L cap w (by omega) (by omega) hb hst hoks
end Go.Proofs.Ytaginjpdpjehoaa.Ar
