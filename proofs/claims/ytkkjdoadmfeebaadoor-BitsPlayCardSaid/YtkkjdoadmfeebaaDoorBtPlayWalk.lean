/-
  The walk of the law BitsPlay.
-/
import Derived.Test.YtkkjdoadmfeebaaDoorBtTells
namespace Go.Proofs.YtkkjdoadmfeebaaDoor.Bt
open Go.RowKit Go.Proofs.YtkkjdoadmfeebaaDoor.Ar Go.Proofs.YtkkjdoadmfeebaaDoor.Wd
set_option linter.unusedVariables false

/-- Where the law stands between two steps. -/
def Twin (w x : World) (p q r s n : Nat) (bs : List Bool) : Prop := Bv x p q bs ∧ Rf x r s bs ∧ bs.length = n ∧ w.heap.size ≤ p ∧ w.heap.size ≤ q ∧ w.heap.size ≤ r ∧ w.heap.size ≤ s ∧ Kept [] w x
theorem Twin.world {w x : World} {p q r s n : Nat} {bs : List Bool} (h : Twin w x p q r s n bs) : Kept [] w x := h.2.2.2.2.2.2.2
theorem Twin.stay {w x y : World} {p q r s n : Nat} {bs : List Bool} (h : Twin w x p q r s n bs) (k : Kept [] x y) : Twin w y p q r s n bs :=
  ⟨h.1.keep0 k, h.2.1.keep0 k, h.2.2.1, h.2.2.2.1, h.2.2.2.2.1, h.2.2.2.2.2.1, h.2.2.2.2.2.2.1, h.world.trans k⟩
theorem twin_new {w x0 x1 : World} {n : Nat} (hv : Bv x0 (w.heap.size + 1) w.heap.size (List.replicate n false)) (hk : Kept [] w x0) (hr : Rf x1 (x0.heap.size + 1) x0.heap.size (List.replicate n false)) (hk1 : Kept [] x0 x1) : Twin w x1 (w.heap.size + 1) w.heap.size (x0.heap.size + 1) x0.heap.size n (List.replicate n false) :=
  have hm := hk.more
  ⟨hv.keep0 hk1, hr, List.length_replicate, by omega, by omega, by omega, by omega, hk.trans hk1⟩
theorem Twin.does {w x : World} {p q r s n : Nat} {bs : List Bool} (h : Twin w x p q r s n bs) (st : Stp) (hs : st.ok) :
    Calls Tryd.prog 15 #[.pointer (some ⟨p, 0, none⟩), .pointer (some ⟨r, 0, none⟩), .agg #[.int .i64 st.d, .int .i64 st.a, .int .i64 st.n]] x fun e y => e = .returned (.bool true) ∧ Twin w y p q r s n (stepB bs st) := by
  refine (does_ok h.1 h.2.1 rfl st hs).mono ?_
  rintro e y ⟨rfl, hB, hR, hK⟩
  obtain ⟨_, _, hl, h1, h2, h3, h4, hw⟩ := h
  exact ⟨rfl, hB, hR, (stepB_length _ _).trans hl, h1, h2, h3, h4, hw.forget hK fun i hi => by simp at hi; omega⟩
theorem Twin.tells {w x : World} {p q r s n : Nat} {bs : List Bool} (h : Twin w x p q r s n bs) (hT : Table w) (st : Stp) (hs : st.ok) :
    Calls Tryd.prog 16 #[.pointer (some ⟨p, 0, none⟩), .pointer (some ⟨r, 0, none⟩), .int .i64 st.a, .int .i64 st.n] x fun e y => e = .returned (.bool true) ∧ Twin w y p q r s n bs :=
  (tells_ok bs p q r s x h.1 h.2.1 (tableKeep hT h.world) st.a st.n hs.2.1.1 hs.2.1.2 hs.2.2.1 hs.2.2.2).mono fun _ _ ⟨he, hk⟩ => ⟨he, h.stay hk⟩
/-- The old one is played with; a copy goes on. -/
theorem Twin.copied {w x y z : World} {p q r s n : Nat} {bs : List Bool} (h : Twin w x p q r s n bs) (hA : Bv y (x.heap.size + 1) x.heap.size bs) (hK : Kept [] x y) (hK2 : Kept [q] y z) : Twin w z (x.heap.size + 1) x.heap.size r s n bs := by
  obtain ⟨hp, hq⟩ := bv_lt h.1
  obtain ⟨e1, e2, e3, e4⟩ := bv_rf h.1 h.2.1
  have hm := h.world.more
  obtain ⟨_, hR, hl, h1, h2, h3, h4, hw⟩ := h
  refine ⟨hA.kept hK2 (by simp; omega) (by simp; omega), (hR.keep0 hK).kept hK2 (by simp; omega) (by simp; omega), hl, by omega, by omega, h3, h4, (hw.trans hK).forget hK2 fun i hi => by simp at hi; omega⟩

set_option maxRecDepth 100000 in
set_option maxHeartbeats 800000 in
theorem plays_small (n : Int) (A : Option Addr) (k cap : Nat) (w : World) (hT : Table w) (hm : 60 < k ∨ (3000 < n ∧ n ≤ 65536)) (hl : k ≤ maxLen) :
    Calls Tryd.prog 3 #[.int .i64 n, .slice A k cap] w fun e w' => e = .returned (.bool true) ∧ Kept [] w w' := by
  unfold maxLen at hl
  have HA := Lib.hid (alive_ok w hT)
  clear hT
  by_cases h1 : 60 < k
  · clear hm
    go_enter Tryd.func3, Tryd.ntmps3
    go_wp2_with fail
    refine HA.out.mono ?_; rintro e w' ⟨rfl, hk⟩
    have HK := Lib.hid hk
    clear hk
    go_wp2_with fail
    go_ret
    exact ⟨rfl, HK.out⟩
  · have h2 : 3000 < n := by omega
    have h3 : n ≤ 65536 := by omega
    clear hm
    go_enter Tryd.func3, Tryd.ntmps3
    go_wp2_with fail
    refine HA.out.mono ?_; rintro e w' ⟨rfl, hk⟩
    have HK := Lib.hid hk
    clear hk
    go_wp2_with fail
    go_ret
    exact ⟨rfl, HK.out⟩
set_option maxRecDepth 100000 in
set_option maxHeartbeats 800000 in
theorem plays_bad (n : Int) (A : Option Addr) (k cap : Nat) (w : World) (hT : Table w) (hm : k ≤ 60) (hn : n < 0 ∨ 65536 < n) :
    Calls Tryd.prog 3 #[.int .i64 n, .slice A k cap] w fun e w' => e = .returned (.bool true) ∧ Kept [] w w' := by
  have HA := Lib.hid (alive_ok w hT)
  have H1 := Lib.hid (new_no n hn w)
  have h2 := may_any n w
  rw [decide_eq_false (show ¬ (0 ≤ n ∧ n ≤ 65536) by omega)] at h2
  have H2 := Lib.hid h2
  clear h2 hT
  rcases hn with hn | hn
  all_goals
    go_enter Tryd.func3, Tryd.ntmps3
    go_wp2_with fail
    refine H1.out.mono ?_; rintro e w' ⟨rfl, rfl⟩
    go_wp2_with fail
    refine H2.out.mono ?_; rintro e w' ⟨rfl, rfl⟩
    go_wp2_with fail
    refine HA.out.mono ?_; rintro e w' ⟨rfl, hk⟩
    have HK := Lib.hid hk
    clear hk
    go_wp2_with fail
    go_ret
    exact ⟨rfl, HK.out⟩

set_option maxRecDepth 100000 in
set_option maxHeartbeats 1600000 in
theorem plays_good (n : Nat) (A : Option Addr) (L : List Stp) (cap : Nat) (w : World) (hT : Table w) (hL : L.length ≤ 60) (hn : n ≤ 3000) (hst : Steps w A L) (hoks : ∀ s ∈ L, s.ok) :
    Calls Tryd.prog 3 #[.int .i64 n, .slice A L.length cap] w fun e w' => e = .returned (.bool true) ∧ Kept [] w w' := by
  have HA := Lib.hid (fun x (hk : Kept [] w x) => alive_ok x (tableKeep hT hk))
  have H1 := Lib.hid (newBv_ok n (by omega) w)
  have h2 := fun x => may_any (n : Int) x
  simp only [decide_eq_true (show 0 ≤ (n : Int) ∧ (n : Int) ≤ 65536 by omega)] at h2
  have H2 := Lib.hid h2
  have H3 := Lib.hid (fun x => refNew_ok n (by omega) x)
  have HS := Lib.hid hst
  have HO := Lib.hid hoks
  have HT := Lib.hid hT
  clear h2 hst hoks hT
  go_enter Tryd.func3, Tryd.ntmps3
  go_wp2_with fail
  refine H1.out.mono ?_; rintro e x0 ⟨rfl, hv, hk⟩
  have HV := Lib.hid hv
  have HK := Lib.hid hk
  have HLen : Hid (Calls Tryd.prog 10 #[.pointer (some ⟨w.heap.size + 1, 0, none⟩)] x0 fun e w' => e = .returned (.int .i64 (n : Int)) ∧ x0 = w') := by
    obtain ⟨ws, hV, _⟩ := hv
    rw [List.length_replicate] at hV
    exact len_ok x0 hV
  clear hv hk H1
  go_wp2_with fail
  refine (H2.out _).mono ?_; rintro e w' ⟨rfl, rfl⟩
  clear H2
  go_wp2_with fail
  refine HLen.out.mono ?_; rintro e w' ⟨rfl, rfl⟩
  clear HLen
  go_wp2_with fail
  refine (H3.out _).mono ?_; rintro e x1 ⟨rfl, hr, hk1⟩
  have HG0 : Hid (Twin w x1 (w.heap.size + 1) w.heap.size (x0.heap.size + 1) x0.heap.size n (List.replicate n false)) := twin_new HV.out HK.out hr hk1
  clear hr hk1 HV HK H3
  generalize List.replicate n false = bs0 at HG0
  generalize w.heap.size + 1 = p0 at *
  generalize w.heap.size = q0 at *
  generalize x0.heap.size + 1 = r at *
  generalize x0.heap.size = s at *
  go_wp2_with fail
  go_loopw [5, 8] (fun a t wr => ∃ (j p q : Nat) (bs : List Bool), j ≤ L.length ∧ t = .int .i64 j ∧ a = .pointer (some ⟨p, 0, none⟩) ∧ Hid (Twin w wr p q r s n bs)) (fun _ t _ => L.length - (intOf t).toNat)
  case atStart => exact ⟨0, p0, q0, _, Nat.zero_le _, rfl, rfl, HG0⟩
  case round =>
    clear HG0
    obtain ⟨j, p, q, bs, hj, rfl, rfl, hG⟩ := hrel
    by_cases hlt : j < L.length
    · have hne : L ≠ [] := fun h0 => by rw [h0] at hlt; simp at hlt
      obtain ⟨g0, f0, rfl, hcs⟩ := HS.out.later hne
      have HC := Lib.hid hcs
      obtain ⟨st, hsj⟩ : ∃ st, L[j]? = some st := ⟨_, List.getElem?_eq_getElem hlt⟩
      have hok := Lib.hid (HO.out st (List.mem_of_getElem? hsj))
      have hS0 : wr.cell? ⟨g0, f0 + j * 3, none⟩ = some (.int .i64 st.d) := HC.out wr hG.out.world j st hsj 0 _ rfl
      clear hcs hne
      by_cases hd : st.d = 4
      · rw [hd] at hS0
        clear hd
        have Hcopy := Lib.hid (copy_ok bs p q wr hG.out.1)
        have hn2 : Int.tdiv (n : Int) 2 = ((n / 2 : Nat) : Int) := by rw [Int.tdiv_eq_ediv_of_nonneg (by omega)]; omega
        have Hset := Lib.hid (fun y (hv : Bv y p q bs) => setRun_ok bs p q y hv 0 ((n : Int) / 2) (by omega) (by omega) (by omega) (by omega))
        have Hclr := Lib.hid (fun y vs (hv : Bv y p q vs) => clearRun_ok vs p q y hv ((n : Int) / 2) ((n : Int) - (n : Int) / 2) (by omega) (by omega) (by omega) (by omega))
        have hw1 : IntKind.i64.wrap ((n / 2 : Nat) : Int) = ((n / 2 : Nat) : Int) := by rw [IntKind.wrap_i64]; omega
        have hw2 : IntKind.i64.wrap ((n : Int) - ((n / 2 : Nat) : Int)) = ((n - n / 2 : Nat) : Int) := by rw [IntKind.wrap_i64]; omega
        go_wp2_with fail
        refine Hcopy.out.mono ?_; rintro e y1 ⟨rfl, hA2, hK2⟩
        have HA2 := Lib.hid (And.intro hA2 hK2)
        have hv1 := hG.out.1.keep0 hK2
        clear hA2 hK2 Hcopy
        go_wp2_with fail
        refine (Hset.out _ hv1).mono ?_; rintro e y2 ⟨rfl, hv2, hK3⟩
        have HK3 := Lib.hid hK3
        clear hK3 Hset hv1
        go_wp2_with fail
        refine (Hclr.out _ _ hv2).mono ?_; rintro e x ⟨rfl, _, hK4⟩
        have HG : Hid (Twin w x (wr.heap.size + 1) wr.heap.size r s n bs) := hG.out.copied HA2.out.1 HA2.out.2 (HK3.out.trans hK4)
        clear hK4 HA2 HK3 Hclr hG hv2 hS0 hn2 hw1 hw2
        generalize wr.heap.size + 1 = p2 at *
        generalize wr.heap.size = q2 at *
        have hcl := HC.out x HG.out.world j st hsj
        have d0 : x.cell? ⟨g0, f0 + j * 3, none⟩ = some (.int .i64 st.d) := hcl 0 _ rfl
        have d1 : x.cell? ⟨g0, f0 + j * 3 + 1, none⟩ = some (.int .i64 st.a) := hcl 1 _ rfl
        have d2 : x.cell? ⟨g0, f0 + j * 3 + 2, none⟩ = some (.int .i64 st.n) := hcl 2 _ rfl
        have cd : ∀ y, Kept [] x y → Calls Tryd.prog 15 #[.pointer (some ⟨p2, 0, none⟩), .pointer (some ⟨r, 0, none⟩), .agg #[.int .i64 st.d, .int .i64 st.a, .int .i64 st.n]] y fun e z => e = .returned (.bool true) ∧ Twin w z p2 q2 r s n (stepB bs st) ∧ z.cell? ⟨g0, f0 + j * 3, none⟩ = some (.int .i64 st.d) ∧ z.cell? ⟨g0, f0 + j * 3 + 1, none⟩ = some (.int .i64 st.a) ∧ z.cell? ⟨g0, f0 + j * 3 + 2, none⟩ = some (.int .i64 st.n) := fun y hy => ((HG.out.stay hy).does st hok.out).mono fun e z ⟨he, ht⟩ => ⟨he, ht, HC.out z ht.world j st hsj 0 _ rfl, HC.out z ht.world j st hsj 1 _ rfl, HC.out z ht.world j st hsj 2 _ rfl⟩
        have CD := Lib.hid cd
        have ct : ∀ y z, Twin w y p2 q2 r s n (stepB bs st) → Kept [] y z → Calls Tryd.prog 16 #[.pointer (some ⟨p2, 0, none⟩), .pointer (some ⟨r, 0, none⟩), .int .i64 st.a, .int .i64 st.n] z fun e z => e = .returned (.bool true) ∧ Twin w z p2 q2 r s n (stepB bs st) ∧ z.cell? ⟨g0, f0 + j * 3, none⟩ = some (.int .i64 st.d) ∧ z.cell? ⟨g0, f0 + j * 3 + 1, none⟩ = some (.int .i64 st.a) ∧ z.cell? ⟨g0, f0 + j * 3 + 2, none⟩ = some (.int .i64 st.n) := fun y z hN hy => ((hN.stay hy).tells HT.out st hok.out).mono fun e z ⟨he, ht⟩ => ⟨he, ht, HC.out z ht.world j st hsj 0 _ rfl, HC.out z ht.world j st hsj 1 _ rfl, HC.out z ht.world j st hsj 2 _ rfl⟩
        have CT := Lib.hid ct
        generalize stepB bs st = R at *
        clear HG hcl HC cd ct
        go_wp2_with fail
        go_region_held3 (fun y => y.cell? ⟨g0, f0 + j * 3, none⟩ = some (.int .i64 st.d) ∧ y.cell? ⟨g0, f0 + j * 3 + 1, none⟩ = some (.int .i64 st.a) ∧ y.cell? ⟨g0, f0 + j * 3 + 2, none⟩ = some (.int .i64 st.n)) (go_keep)
          (first | (go_at_call 15; refine (CD.out _ ?_).mono ?_; (first | exact Kept.refl _ _ | exact (Kept.refl _ _).drewN _); rintro e y ⟨rfl, hN, k0, k1, k2⟩) | (go_at_call 16; refine (CT.out _ _ hN ?_).mono ?_; (first | exact Kept.refl _ _ | exact (Kept.refl _ _).drewN _); rintro e z ⟨rfl, hN2, l0, l1, l2⟩))
        all_goals
          have HG' := Lib.hid hN2
          clear hN2 hN CD CT
          go_wp2_with fail
          go_roundw
          case rel => exact ⟨j + 1, p2, q2, R, by omega, by go_num, rfl, HG'⟩
          case measure => simp [intOf]; omega
      · have hdb : (st.d == 4) = false := beq_eq_false_iff_ne.2 hd
        obtain ⟨x, rfl⟩ : ∃ x, x = wr := ⟨_, rfl⟩
        have HG := hG
        clear hd hG
        have hcl := HC.out x HG.out.world j st hsj
        have d0 : x.cell? ⟨g0, f0 + j * 3, none⟩ = some (.int .i64 st.d) := hcl 0 _ rfl
        have d1 : x.cell? ⟨g0, f0 + j * 3 + 1, none⟩ = some (.int .i64 st.a) := hcl 1 _ rfl
        have d2 : x.cell? ⟨g0, f0 + j * 3 + 2, none⟩ = some (.int .i64 st.n) := hcl 2 _ rfl
        have cd : ∀ y, Kept [] x y → Calls Tryd.prog 15 #[.pointer (some ⟨p, 0, none⟩), .pointer (some ⟨r, 0, none⟩), .agg #[.int .i64 st.d, .int .i64 st.a, .int .i64 st.n]] y fun e z => e = .returned (.bool true) ∧ Twin w z p q r s n (stepB bs st) ∧ z.cell? ⟨g0, f0 + j * 3, none⟩ = some (.int .i64 st.d) ∧ z.cell? ⟨g0, f0 + j * 3 + 1, none⟩ = some (.int .i64 st.a) ∧ z.cell? ⟨g0, f0 + j * 3 + 2, none⟩ = some (.int .i64 st.n) := fun y hy => ((HG.out.stay hy).does st hok.out).mono fun e z ⟨he, ht⟩ => ⟨he, ht, HC.out z ht.world j st hsj 0 _ rfl, HC.out z ht.world j st hsj 1 _ rfl, HC.out z ht.world j st hsj 2 _ rfl⟩
        have CD := Lib.hid cd
        have ct : ∀ y z, Twin w y p q r s n (stepB bs st) → Kept [] y z → Calls Tryd.prog 16 #[.pointer (some ⟨p, 0, none⟩), .pointer (some ⟨r, 0, none⟩), .int .i64 st.a, .int .i64 st.n] z fun e z => e = .returned (.bool true) ∧ Twin w z p q r s n (stepB bs st) ∧ z.cell? ⟨g0, f0 + j * 3, none⟩ = some (.int .i64 st.d) ∧ z.cell? ⟨g0, f0 + j * 3 + 1, none⟩ = some (.int .i64 st.a) ∧ z.cell? ⟨g0, f0 + j * 3 + 2, none⟩ = some (.int .i64 st.n) := fun y z hN hy => ((hN.stay hy).tells HT.out st hok.out).mono fun e z ⟨he, ht⟩ => ⟨he, ht, HC.out z ht.world j st hsj 0 _ rfl, HC.out z ht.world j st hsj 1 _ rfl, HC.out z ht.world j st hsj 2 _ rfl⟩
        have CT := Lib.hid ct
        generalize stepB bs st = R at *
        clear HG hcl HC hS0 cd ct
        go_wp2_with fail
        go_region_held3 (fun y => y.cell? ⟨g0, f0 + j * 3, none⟩ = some (.int .i64 st.d) ∧ y.cell? ⟨g0, f0 + j * 3 + 1, none⟩ = some (.int .i64 st.a) ∧ y.cell? ⟨g0, f0 + j * 3 + 2, none⟩ = some (.int .i64 st.n)) (go_keep)
          (first | (go_at_call 15; refine (CD.out _ ?_).mono ?_; (first | exact Kept.refl _ _ | exact (Kept.refl _ _).drewN _); rintro e y ⟨rfl, hN, k0, k1, k2⟩) | (go_at_call 16; refine (CT.out _ _ hN ?_).mono ?_; (first | exact Kept.refl _ _ | exact (Kept.refl _ _).drewN _); rintro e z ⟨rfl, hN2, l0, l1, l2⟩))
        all_goals
          have HG' := Lib.hid hN2
          clear hN2 hN CD CT
          go_wp2_with fail
          go_roundw
          case rel => exact ⟨j + 1, p, q, R, by omega, by go_num, rfl, HG'⟩
          case measure => simp [intOf]; omega
    · have HSame := Lib.hid (lawSame_ok bs p q r s wr hG.out.1 hG.out.2.1 (tableKeep HT.out hG.out.world))
      obtain rfl : j = L.length := by omega
      have HKw := Lib.hid hG.out.world
      clear hG hlt hj HS HO
      go_wp2_with fail
      refine HSame.out.mono ?_; rintro e y ⟨rfl, hk⟩
      have HK := Lib.hid (HKw.out.trans hk)
      clear hk HKw HSame
      go_wp2_with fail
      refine (HA.out _ HK.out).mono ?_; rintro e z ⟨rfl, hk⟩
      have HK2 := Lib.hid (HK.out.trans hk)
      clear hk HK
      go_wp2_with fail
      go_ret
      exact ⟨rfl, HK2.out⟩
theorem plays_walk (n : Int) (A : Option Addr) (L : List Stp) (cap : Nat) (w : World) (hT : Table w) (hL : L.length ≤ maxLen) (hst : Steps w A L) (hoks : ∀ s ∈ L, s.ok) :
    Calls Tryd.prog 3 #[.int .i64 n, .slice A L.length cap] w fun e w' => e = .returned (.bool true) ∧ Kept [] w w' := by
  by_cases hm : 60 < L.length ∨ (3000 < n ∧ n ≤ 65536)
  · exact plays_small n A L.length cap w hT hm hL
  · by_cases hb : n < 0 ∨ 65536 < n
    · exact plays_bad n A L.length cap w hT (by omega) hb
    · obtain ⟨n, rfl⟩ := Int.eq_ofNat_of_zero_le (show 0 ≤ n by omega)
      exact plays_good n A L cap w hT (by omega) (by omega) hst hoks
end Go.Proofs.YtkkjdoadmfeebaaDoor.Bt
