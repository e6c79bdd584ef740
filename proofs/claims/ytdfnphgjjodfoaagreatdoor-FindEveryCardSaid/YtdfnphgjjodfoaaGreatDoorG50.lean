/-
  Several texts in one: WkMade, FdAlive.
-/
import Derived.Test.YtdfnphgjjodfoaaGreatDoorG39
import Derived.Test.YtdfnphgjjodfoaaGreatDoorG15
import Derived.Test.YtdfnphgjjodfoaaGreatDoorG31
import Derived.Test.YtdfnphgjjodfoaaGreatDoorG46
import Derived.Test.YtdfnphgjjodfoaaGreatDoorG44
import Derived.Test.YtdfnphgjjodfoaaGreatDoorG48
import Derived.Test.YtdfnphgjjodfoaaGreatDoorG49
/-
  The document's new space; the law's Made: a space and the document's, or none.
-/
namespace Go.Proofs.YtdfnphgjjodfoaaGreatDoor.Wk
open Go.RowKit Go.Proofs.YtdfnphgjjodfoaaGreatDoor.Ar Go.Proofs.YtdfnphgjjodfoaaGreatDoor.Sp Go.Proofs.YtdfnphgjjodfoaaGreatDoor.Sh
open Go.Proofs.YtdfnphgjjodfoaaGreatDoor.Hd (Hd Fields)
open Go.Proofs.YtdfnphgjjodfoaaGreatDoor.Tb (Ty Tab newF newF_len)
open Go.Proofs.YtdfnphgjjodfoaaGreatDoor.Wd (Table)
set_option linter.unusedVariables false

set_option maxRecDepth 100000 in
set_option maxHeartbeats 2000000 in
theorem dnew_ok {w : World} {B : Option Addr} {d : Nat} {l : List Ty} (n : Nat) (hn : n ≤ 65536) :
    Calls Tryz.prog 52 #[.int .i64 (n : Int), .slice B l.length d] w fun e y => ∃ r q cap, e = .returned (.pointer (some ⟨r, 0, none⟩)) ∧ DSp y r q cap B d l (newW n) ∧ w.heap.size ≤ r ∧ w.heap.size ≤ q ∧ Kept [] w y := by
  have hmk := run_make_words n (by omega) w
  have hk2 : Kept [] w ((w.alloc (.cells (Ar.ints (List.replicate n 0)).toArray 24)).alloc (.cells #[.slice (some ⟨w.heap.size, 0, none⟩) n n, .slice B l.length d] 74)) := ((Kept.refl [] w).alloc _).alloc _
  have hH : Has ((w.alloc (.cells (Ar.ints (List.replicate n 0)).toArray 24)).alloc (.cells #[.slice (some ⟨w.heap.size, 0, none⟩) n n, .slice B l.length d] 74)) (w.heap.size + 1) 74 [.slice (some ⟨w.heap.size, 0, none⟩) n n, .slice B l.length d] := by
    have := Has.new (w.alloc (.cells (Ar.ints (List.replicate n 0)).toArray 24)) 74 [.slice (some ⟨w.heap.size, 0, none⟩) n n, .slice B l.length d]
    rwa [World.size_alloc] at this
  have hR : Has ((w.alloc (.cells (Ar.ints (List.replicate n 0)).toArray 24)).alloc (.cells #[.slice (some ⟨w.heap.size, 0, none⟩) n n, .slice B l.length d] 74)) w.heap.size 24 (Ar.ints (List.replicate n 0) ++ []) := by
    rw [List.append_nil]
    exact (Has.new w 24 (Ar.ints (List.replicate n 0))).alloc _
  have hD : DSp ((w.alloc (.cells (Ar.ints (List.replicate n 0)).toArray 24)).alloc (.cells #[.slice (some ⟨w.heap.size, 0, none⟩) n n, .slice B l.length d] 74)) (w.heap.size + 1) w.heap.size n B d l (List.replicate n 0) :=
    ⟨by rw [List.length_replicate]; exact hH, ⟨[], hR⟩, by rw [List.length_replicate]; exact Nat.le_refl _⟩
  have hg : gran (List.replicate n (0 : Int)) = (n : Int) / 2 := by unfold gran; rw [List.length_replicate]
  have HLay := Lib.hid (lay_ok hD (by rw [List.length_replicate]; exact hn) 0 ((n : Int) / 2) (Int.le_refl _) (fun _ => by rw [hg]; omega) (by omega))
  have HE : Hid (gapS (List.replicate n 0) 0 (0 + (n : Int) / 2) = newW n) := Lib.hid (by rw [Int.zero_add, ← hg]; rfl)
  have HK2 := Lib.hid hk2
  obtain ⟨G, hG⟩ : ∃ G, G = (n : Int) / 2 := ⟨_, rfl⟩
  rw [← hG] at HLay HE
  have ed : (n : Int).tdiv 2 = G := by rw [hG]; exact Int.tdiv_eq_ediv_of_nonneg (by omega)
  have hG0 : 0 ≤ G ∧ G ≤ 32768 := by omega
  clear hk2 hH hR hD hg hG
  go_enter Tryz.func52, Tryz.ntmps52
  go_wp2_with fail
  refine HLay.out.mono ?_
  rintro e y ⟨⟨v, rfl⟩, q', cap', h1, h2, h3⟩
  have HFin : Hid (DSp y (w.heap.size + 1) q' cap' B d l (newW n) ∧ w.heap.size ≤ w.heap.size + 1 ∧ w.heap.size ≤ q' ∧ Kept [] w y) := Lib.hid ⟨by rw [← HE.out]; exact h1, by omega, by
    rcases h2 with rfl | h2
    · exact Nat.le_refl _
    · exact Nat.le_trans HK2.out.more h2, HK2.out.forget h3 (fun i hi => by rw [List.mem_singleton.1 hi]; omega)⟩
  clear h1 h2 h3 HLay HE HK2
  go_wp2_with fail
  go_ret
  exact ⟨_, q', cap', rfl, HFin.out⟩

/-- A new space of a law's own making, its words told. -/
theorem mine_new {w : World} (n : Nat) (hn : mayB (n : Int) = true) {x : World} {tp : Nat} {A : Option Addr} {c : Nat} {l : List Ty} (hF : Fields x) (hTb : Table x) (hT : Tab x tp A c l) (k : Kept [] w x) :
    Calls Tryz.prog 51 #[.int .i64 (n : Int), .pointer (some ⟨tp, 0, none⟩)] x fun e y => ∃ s : Ids, e = .returned (.tuple #[.pointer (some ⟨s.sp, 0, none⟩), .int .i64 0]) ∧ Mine w y s l (newW n) (newB n) (newC n) ∧ Kept [] x y ∧ s.n = (newB n).length := by
  refine (new_yes n hn hF hTb hT).mono ?_
  rintro e y ⟨s0, he, hs, hS0, hk, hf⟩
  obtain ⟨s, hsp, hst, hSS, hsn⟩ : ∃ s : Ids, s.sp = s0.sp ∧ s.turn = s0.turn ∧ Spc y s l (newW n) (newB n) ∧ s.n = (newB n).length := ⟨{ s0 with n := (newB n).length }, rfl, rfl, ⟨hS0.head, hS0.ar, hS0.tab, hS0.bv, hS0.wm⟩, rfl⟩
  rw [← hsp] at he
  rw [← hst] at hf
  have hS := hSS
  have hturn : ∀ i ∈ s.turn, w.heap.size ≤ i := fun i hi => Nat.le_trans k.more (hf i hi)
  refine ⟨s, he, ⟨k.trans hk, hS, ⟨hF.keep0 hk, table_keep0 hTb hk, fun hm => ?_, fun hm => ?_⟩, new_snd hn l, hturn⟩, hk, hsn⟩
  · have := hf _ hm
    have := hF.lt
    omega
  · have h1 := hf _ hm
    have hc := hTb 0 (by omega)
    have hn : x.heap[1]? = none := Array.getElem?_eq_none h1
    simp [World.cell?, hn] at hc

def MadePost (w : World) (n : Int) (B : Option Addr) (d : Nat) (l : List Ty) (e : Ending) (y : World) : Prop :=
  (((newF [] l).2 ≠ 0 ∨ mayB n = false) ∧ e = .returned (.tuple #[.pointer none, .pointer none, .bool true]) ∧ Kept [] w y) ∨
  ∃ (m : Nat) (s : Ids) (r : Nat), n = (m : Int) ∧ mayB (m : Int) = true ∧ e = .returned (.tuple #[.pointer (some ⟨s.sp, 0, none⟩), .pointer (some ⟨r, 0, none⟩), .bool true]) ∧ (2 * s.n : Int) = (m : Int) ∧ Duo w y s r B d l (newW m) (newB m) (newC m) (newW m)
set_option maxRecDepth 100000 in
set_option maxHeartbeats 4000000 in
theorem made_ok {w : World} (n : Int) (n0 : -9223372036854775808 ≤ n) (n1 : n ≤ 9223372036854775807) {B : Option Addr} {d : Nat} {l : List Ty} (hF : Fields w) (hTb : Table w) (hS : Tb.Seen w B l) (hok : ∀ x ∈ l, x.ok) (hlen : l.length ≤ 100000) :
    Calls Tryz.prog 26 #[.int .i64 n, .slice B l.length d] w (MadePost w n B d l) := by
  have HNt := Lib.hid (Tb.new_ok (l := l) d hS hok (by omega))
  have HFd := Lib.hid hF
  have HTb := Lib.hid hTb
  clear hF hTb hS hok
  unfold MadePost
  go_enter Tryz.func26, Tryz.ntmps26
  go_wp2_with fail
  refine HNt.out.mono ?_
  rintro e x1 (⟨h0, tp, A, c, rfl, hm⟩ | ⟨h0, rfl, k1⟩)
  · have hl1 : (newF [] l).1 = l := by rw [newF_len [] h0]; rfl
    rw [hl1] at hm
    have k1 : Kept [] w x1 := hm.2.2.2
    have HT := Lib.hid hm.1
    have K1 := Lib.hid k1
    clear hm k1 hl1 h0 HNt
    cases hmb : mayB n with
    | false =>
      have HN := Lib.hid (new_no n hmb tp x1)
      have hq : ¬ (16 ≤ n ∧ n ≤ 65536 ∧ n.tmod 2 = 0) := fun h => by
        have := (mayB_iff n).2 ⟨h.1, h.2.1, h.2.2⟩
        rw [hmb] at this; cases this
      have HWy : Hid ((newF [] l).2 ≠ 0 ∨ mayB n = false) := Lib.hid (.inr hmb)
      clear hmb
      by_cases h1 : n < 16
      · go_wp2_with fail
        refine HN.out.mono ?_
        rintro e x2 ⟨rfl, rfl⟩
        go_wp2_with fail
        go_ret3
        exact .inl ⟨HWy.out, rfl, K1.out⟩
      · by_cases h2 : 65536 < n
        · go_wp2_with fail
          refine HN.out.mono ?_
          rintro e x2 ⟨rfl, rfl⟩
          go_wp2_with fail
          go_ret3
          exact .inl ⟨HWy.out, rfl, K1.out⟩
        · have em : n.tmod 2 = 1 := by
            rw [Int.tmod_eq_emod_of_nonneg (by omega)] at hq ⊢
            omega
          clear hq
          go_wp2_with fail
          refine HN.out.mono ?_
          rintro e x2 ⟨rfl, rfl⟩
          go_wp2_with fail
          go_ret3
          exact .inl ⟨HWy.out, rfl, K1.out⟩
    | true =>
      obtain ⟨q1, q2, q3⟩ := (mayB_iff _).1 hmb
      obtain ⟨m, rfl⟩ := Int.eq_ofNat_of_zero_le (show 0 ≤ n by omega)
      have HN := Lib.hid (mine_new (w := w) m hmb (HFd.out.keep0 K1.out) (table_keep0 HTb.out K1.out) HT.out K1.out)
      have HB := Lib.hid hmb
      have em : (m : Int).tmod 2 = 0 := q3
      have hm6 : m ≤ 65536 := by omega
      clear hmb q3
      go_wp2_with fail
      refine HN.out.mono ?_
      rintro e x2 ⟨s, rfl, hmn, k2, hsn⟩
      have HM := Lib.hid hmn
      have HSn := Lib.hid hsn
      have HDn := Lib.hid (dnew_ok (w := x2) (B := B) (d := d) (l := l) m hm6)
      clear hmn k2 hsn HN HT K1
      go_wp2_with fail
      refine HDn.out.mono ?_
      rintro e x3 ⟨r, q, cap, rfl, hD, hr, hq, k3⟩
      have hm3 := HM.out.keep0 k3
      have HDu : Hid (Duo w x3 s r B d l (newW m) (newB m) (newC m) (newW m)) := Lib.hid ⟨HFd.out, HTb.out, hm3, ⟨q, cap, hD, fun hh => by have := HM.out.spc.turn_lt _ hh; omega⟩, Nat.le_trans HM.out.kept.more hr, by
        have h1 := HM.out.snd.len
        rw [show gran (newW m) = gran (List.replicate m (0 : Int)) from gran_eq (becomeW_length _ _ _ _)] at h1
        have := (gran_zeros HB.out).2.1
        omega, HSn.out.symm⟩
      have HAr := Lib.hid (arena_ok hm3.spc)
      clear hD hr hq k3 hm3 HM HDn
      go_wp2_with fail
      refine HAr.out.mono ?_
      rintro e x4 ⟨rfl, rfl⟩
      go_wp2_with fail
      go_ret3
      exact .inr ⟨m, s, r, rfl, HB.out, rfl, by
        have h1 := HDu.out.mine.snd.len
        have h2 := HDu.out.size
        rw [show gran (newW m) = gran (List.replicate m (0 : Int)) from gran_eq (becomeW_length _ _ _ _), (gran_zeros HB.out).1] at h1
        have h3 := ((mayB_iff _).1 HB.out).2.2
        rw [Int.tmod_eq_emod_of_nonneg (by omega)] at h3
        omega, HDu.out⟩
  · have hb : ((newF [] l).2 != 0) = true := by rw [bne_iff_ne]; exact h0
    have HWy : Hid ((newF [] l).2 ≠ 0 ∨ mayB n = false) := Lib.hid (.inl h0)
    have K1 := Lib.hid k1
    clear h0 k1
    generalize (newF [] l).2 = er at hb ⊢
    go_wp2_with fail
    go_ret3
    exact .inl ⟨HWy.out, rfl, K1.out⟩
end Go.Proofs.YtdfnphgjjodfoaaGreatDoor.Wk

/-
  Stage 11, find: the law's alive returns true: the chapter's example.
-/
namespace Go.Proofs.YtdfnphgjjodfoaaGreatDoor.Fd
open Go.RowKit Go.Proofs.YtdfnphgjjodfoaaGreatDoor.Ar Go.Proofs.YtdfnphgjjodfoaaGreatDoor.Wk
open Go.Proofs.YtdfnphgjjodfoaaGreatDoor.Sp hiding Own own_from own_put back_own Seen own_cells seen_one
open Go.Proofs.YtdfnphgjjodfoaaGreatDoor.Sh (hdH ofE ofT ofS View)
open Go.Proofs.YtdfnphgjjodfoaaGreatDoor.Hd (Hd Fields)
open Go.Proofs.YtdfnphgjjodfoaaGreatDoor.Tb (Ty Tab newF)
open Go.Proofs.YtdfnphgjjodfoaaGreatDoor.Wd (Table)
set_option linter.unusedVariables false

def exF : List Cel := [⟨0, ⟨2, 0, 0, 1⟩⟩, ⟨1, ⟨1, 1, 2, 2⟩⟩, ⟨3, ⟨3, 0, 0, 5⟩⟩]
def exV : List Int := putX (newW 16) exT (newC 16) 1 1 2
theorem exf_put : putE (newW 16) exT (newC 16) 1 1 2 = 0 := by decide +kernel
theorem exf_mayB : mayB 16 = true := by decide +kernel
theorem exf_err : (newF [] exT).2 = 0 := by decide +kernel
theorem exf_s : Scans exV exT 0 exF := ⟨by decide +kernel, by rfl, by decide +kernel, by rfl, by decide +kernel, by rfl, (show cellB exV exT 8 = false by decide +kernel)⟩
theorem exf_of : ofA exF 1048578 = some 1 ∧ ofA exF 1048581 = some 1 ∧ ofA exF 1048582 = none ∧ ofA [] 1048576 = none := by decide +kernel
theorem exf_slot : slotA (slC exV exT) exF 1048579 = some (1, 0) ∧ slotA (slC exV exT) exF 1048581 = none := by decide +kernel
theorem exf_all : allA exF [1048581, 1048578] = [1] := by decide +kernel
section
variable {w : World}
set_option maxRecDepth 100000 in
set_option maxHeartbeats 8000000 in
theorem alive11_ok (hF : Fields w) (hTb : Table w) : Calls Tryz.prog 7 #[] w fun e w' => e = .returned (.bool true) ∧ Kept [] w w' := by
  have k0 : Kept [] w (w.alloc (.cells #[.int .u8 2, .int .i64 0, .int .u64 0] 68)) := (Kept.refl [] w).alloc _
  have HMd : Hid (Calls Tryz.prog 26 #[.int .i64 16, .slice (some ⟨w.heap.size, 0, none⟩) 1 1] (w.alloc (.cells #[.int .u8 2, .int .i64 0, .int .u64 0] 68)) (MadePost (w.alloc (.cells #[.int .u8 2, .int .i64 0, .int .u64 0] 68)) 16 (some ⟨w.heap.size, 0, none⟩) 1 exT)) := Lib.hid (by
    have hs : Tb.Seen (w.alloc (.cells #[.int .u8 2, .int .i64 0, .int .u64 0] 68)) (some ⟨w.heap.size, 0, none⟩) exT := Tb.seen_one (x := ⟨2, 0, 0⟩) (Has.new w 68 [.int .u8 2, .int .i64 0, .int .u64 0])
    exact made_ok (l := exT) 16 (by decide) (by decide) (hF.keep0 k0) (table_keep0 hTb k0) hs (fun x hx => by rw [List.mem_singleton.1 hx]; exact ⟨by decide, by decide⟩) (by decide))
  have HK0 := Lib.hid k0
  clear hF hTb k0
  go_enter Tryz.func7, Tryz.ntmps7
  go_wp2_with fail
  refine HMd.out.mono ?_
  rintro e x1 (⟨h0, _, _⟩ | ⟨m, s, r, hm, _, rfl, _, hD⟩)
  · exfalso
    rcases h0 with h0 | h0
    · exact h0 exf_err
    · rw [exf_mayB] at h0; cases h0
  obtain rfl : m = 16 := by omega
  have HP := Lib.hid (duo_put hD 1 1 2 (by decide) (by decide) (by decide) (by decide))
  rw [exf_put] at HP
  clear hD hm HMd
  generalize w.alloc (.cells #[.int .u8 2, .int .i64 0, .int .u64 0] 68) = x0 at *
  go_wp2_with fail
  refine HP.out.mono ?_
  rintro e x2 ⟨rfl, ⟨bs, cs, h2⟩, k2⟩
  have h2 : Duo x0 x2 s r (some ⟨w.heap.size, 0, none⟩) 1 exT exV bs cs (newW 16) := h2
  obtain rfl : cs = exF := Scans.same h2.mine.snd.scans exf_s
  have hT := h2.mine.snd.tiled
  have hg : gran exV ≤ 32768 := by have := h2.mine.spc.short; unfold gran; omega
  have HCl : ∀ y, Kept [] x2 y → ∀ x, Kept [] y x → Calls Tryz.prog 19 #[.pointer (some ⟨s.sp, 0, none⟩)] x fun e z => ∃ v, e = .returned v ∧ Sp.Own z v exF ∧ Sp.FreshV x v ∧ Kept [] x z := fun y hy x hx => allCells_ok (h2.mine.glob.f.keep0 (hy.trans hx)) (h2.mine.spc.keep0 (hy.trans hx)) exF exf_s
  have HOf := Lib.hid (fun y (k : Kept [] x2 y) u u0 u1 => fof_ok hT hg (HCl y k) u u0 u1)
  have HSl := Lib.hid (fun y (k : Kept [] x2 y) u u0 u1 => fslot_ok (h2.mine.glob.f.keep0 k) (h2.mine.spc.keep0 k) hT u u0 u1)
  have HAl : Hid (∀ y, Kept [] x2 y → ∀ (A : Option Addr) (us : List Int), Rw y A us → (∀ u ∈ us, 0 ≤ u ∧ u < 18446744073709551616) → us.length ≤ 1000000 → Calls Tryz.prog 17 #[.pointer (some ⟨s.sp, 0, none⟩), .slice A us.length us.length] y fun e z => ∃ v, e = .returned v ∧ Ir.Own z v (allA exF us) ∧ Sp.FreshV y v ∧ Kept [] y z) := Lib.hid fun y k A us hA hu hl => fall_ok hT hg (HCl y k) us hA hu hl
  have HNi := Lib.hid (fun y => fof_ok (w := y) (p := none) (cs := []) (ws := []) (l := []) (ec := 0) rfl (by decide) (fun x _ => nilCells_ok x) 1048576 (by decide) (by decide))
  have HK2 := Lib.hid (HK0.out.trans h2.mine.kept)
  have HO1 := Lib.hid (HOf.out x2 (Kept.refl _ _) 1048578 (by decide) (by decide))
  rw [exf_of.1] at HO1
  clear h2 hT hg HCl k2 HP HK0
  go_wp2_with fail
  refine HO1.out.mono ?_
  rintro e x3 ⟨rfl, k3⟩
  have K3 := Lib.hid k3
  have HO2 := Lib.hid (HOf.out x3 k3 1048581 (by decide) (by decide))
  rw [exf_of.2.1] at HO2
  clear k3 HO1
  go_wp2_with fail
  refine HO2.out.mono ?_
  rintro e x4 ⟨rfl, k4⟩
  have K4 := Lib.hid (K3.out.trans k4)
  have HO3 := Lib.hid (HOf.out x4 K4.out 1048582 (by decide) (by decide))
  rw [exf_of.2.2.1] at HO3
  clear k4 HO2 K3
  go_wp2_with fail
  refine HO3.out.mono ?_
  rintro e x5 ⟨rfl, k5⟩
  have K5 := Lib.hid (K4.out.trans k5)
  have HS1 := Lib.hid (HSl.out x5 K5.out 1048579 (by decide) (by decide))
  rw [exf_slot.1] at HS1
  clear k5 HO3 K4
  go_wp2_with fail
  refine HS1.out.mono ?_
  rintro e x6 ⟨rfl, k6⟩
  have K6 := Lib.hid (K5.out.trans k6)
  have HS2 := Lib.hid (HSl.out x6 K6.out 1048581 (by decide) (by decide))
  rw [exf_slot.2] at HS2
  clear k6 HS1 K5
  go_wp2_with fail
  refine HS2.out.mono ?_
  rintro e x7 ⟨rfl, k7⟩
  have K7 := Lib.hid (K6.out.trans k7)
  have HN1 := Lib.hid (HNi.out x7)
  rw [exf_of.2.2.2] at HN1
  clear k7 HS2 K6
  go_wp2_with fail
  refine HN1.out.mono ?_
  rintro e x8 ⟨rfl, k8⟩
  have k8a := k8.alloc (.cells #[.int .u64 1048581, .int .u64 1048578] 24)
  have K8 := Lib.hid (K7.out.trans k8a)
  have hrw : Rw (x8.alloc (.cells #[.int .u64 1048581, .int .u64 1048578] 24)) (some ⟨x8.heap.size, 0, none⟩) [1048581, 1048578] := fun _ => ⟨_, _, rfl, Has.new x8 24 [.int .u64 1048581, .int .u64 1048578], fun j hj => by
    match j, hj with
    | 0, _ => rfl
    | 1, _ => rfl
    | j + 2, h => simp at h; omega⟩
  have HA1 := Lib.hid (HAl.out _ K8.out (some ⟨x8.heap.size, 0, none⟩) [1048581, 1048578] hrw (fun u hu => by simp at hu; omega) (by simp))
  rw [exf_all, show [(1048581 : Int), 1048578].length = 2 from rfl] at HA1
  clear k8 k8a hrw HN1 K7 HOf HSl HAl HNi
  go_wp2_with fail
  refine HA1.out.mono ?_
  rintro e x9 ⟨v, rfl, hO, _, k9⟩
  have k9a := (K8.out.trans k9).alloc (.cells #[.int .i64 1] 3)
  have HE : Hid (∃ A c, v = .slice A 1 c ∧ Ir.Seen (x9.alloc (.cells #[.int .i64 1] 3)) A [1]) := Lib.hid (by
    rcases hO.form with ⟨_, h0⟩ | ⟨g, cap, e, hg, _⟩
    · cases h0
    · subst e
      exact ⟨_, _, rfl, (Ir.Own.seen hO hg).keep0 ((Kept.refl [] _).alloc _)⟩)
  obtain ⟨Av, cv, rfl, hsv⟩ := HE.out
  have HSm := Lib.hid (Kd.same_any Av (some ⟨x9.heap.size, 0, none⟩) [1] [1] cv 1 _ hsv (Ir.Row.seen (l := [1]) (Has.new x9 3 [.int .i64 1])) (by decide) (by decide))
  rw [decide_eq_true (rfl : [(1 : Int)] = [1]), show [(1 : Int)].length = 1 from rfl] at HSm
  have K9 := Lib.hid (HK2.out.trans k9a)
  clear hO k9 k9a hsv HE HA1 K8
  go_wp2_with fail
  refine HSm.out.mono ?_
  rintro e x10 ⟨rfl, kk, rfl⟩
  clear HSm
  go_wp2_with fail
  go_ret
  exact ⟨rfl, K9.out.drewN _⟩
end
end Go.Proofs.YtdfnphgjjodfoaaGreatDoor.Fd
