/-
  Several texts in one: FdDocSlot, FdTellsWalk.
-/
import Derived.Test.YtdfnphgjjodfoaaGreatDoorFdDoc
import Derived.Test.YtdfnphgjjodfoaaGreatDoorG44
import Derived.Test.YtdfnphgjjodfoaaGreatDoorG49
import Derived.Test.YtdfnphgjjodfoaaGreatDoorG14
import Derived.Test.YtdfnphgjjodfoaaGreatDoorG45
import Derived.Test.YtdfnphgjjodfoaaGreatDoorG47
import Derived.Test.YtdfnphgjjodfoaaGreatDoorG50
import Derived.Test.YtdfnphgjjodfoaaGreatDoorG52
import Derived.Test.YtdfnphgjjodfoaaGreatDoorG46
import Derived.Test.YtdfnphgjjodfoaaGreatDoorG28
import Derived.Test.YtdfnphgjjodfoaaGreatDoorG29
/-
  Stage 11, find: the document's Slot and All, of a row of cells.
-/
namespace Go.Proofs.YtdfnphgjjodfoaaGreatDoor.Fd
open Go.RowKit Go.Proofs.YtdfnphgjjodfoaaGreatDoor.Ar Go.Proofs.YtdfnphgjjodfoaaGreatDoor.Sp
open Go.Proofs.YtdfnphgjjodfoaaGreatDoor.Hd (Hd fitL wordI)
open Go.Proofs.YtdfnphgjjodfoaaGreatDoor.Tb (Ty getT errT hasT)
open Go.Proofs.YtdfnphgjjodfoaaGreatDoor.Kd (typV)
open Go.Proofs.YtdfnphgjjodfoaaGreatDoor.Sh (wordR wordB hdH ofT ofS)
set_option linter.unusedVariables false

/-- How many slots a cell's object has, by the list of types. -/
def slD (l : List Ty) (c : Cel) : Int := Kd.slotsR (getT l c.h.ty).k (getT l c.h.ty).wd (getT l c.h.ty).ms c.h.ln
theorem slD_slC {ws : List Int} {l : List Ty} {cs : List Cel} (hT : Tiled ws l 0 cs (gran ws)) {c : Cel} (hc : c ∈ cs) (ht : c.h.tg = 1) : slD l c = slC ws l c := by
  obtain ⟨_, hH⟩ := obj_of hT (Int.le_refl _) (Int.le_refl _) hc ht
  unfold slD slC ofS ofT
  rw [hH]
theorem slotA_same {sl sl' : Cel → Int} {cs : List Cel} (h : ∀ c ∈ cs, c.h.tg = 1 → sl c = sl' c) (u : Int) : slotA sl cs u = slotA sl' cs u := by
  unfold slotA
  cases hc : celA cs u with
  | none => rfl
  | some c =>
    have hm : c ∈ cs := by
      unfold celA at hc
      split at hc
      · exact (celW_mem hc).1
      · cases hc
    by_cases ht : c.h.tg = 1
    · simp only [h c hm ht]
    · simp [ht]
theorem getD_ok {l : List Ty} (hl : ∀ x ∈ l, x.ok) (i : Int) : (getT l i).ms < 18446744073709551616 := by
  unfold getT
  split
  · rcases Nat.lt_or_ge (i - 1).toNat l.length with h | h
    · rw [List.getD_eq_getElem?_getD, List.getElem?_eq_getElem h]
      exact (hl _ (List.getElem_mem h)).2
    · rw [List.getD_eq_getElem?_getD, List.getElem?_eq_none h]
      decide
  · decide
section
variable {w : World} {A : Option Addr} {cap : Nat}
set_option maxRecDepth 100000 in
set_option maxHeartbeats 8000000 in
theorem dslot_ok (cs : List Cel) (hS : Sp.Seen w A cs) (hbd : ∀ c ∈ cs, 0 ≤ c.a ∧ c.a ≤ 1000000 ∧ 1 ≤ c.h.sz ∧ c.h.sz ≤ 1000000 ∧ endC c ≤ 32768) (hlen : cs.length ≤ 1000000) (u : Int) (u0 : 0 ≤ u) (u1 : u < 18446744073709551616)
    {B : Option Addr} {d : Nat} {l : List Ty} (hB : Tb.Seen w B l) (hl : ∀ x ∈ l, x.ok) (hln : l.length ≤ 100000) (hty : ∀ c ∈ cs, -9223372036854775808 ≤ c.h.ty ∧ c.h.ty ≤ 9223372036854775807) :
    Calls Tryz.prog 15 #[.slice A cs.length cap, .slice B l.length d, .int .u64 u] w fun e y => e = .returned (.tuple #[.int .i64 ((slotA (slD l) cs u).getD (0, 0)).1, .int .i64 ((slotA (slD l) cs u).getD (0, 0)).2, .bool (slotA (slD l) cs u).isSome]) ∧ Kept [] w y := by
  have HC := Lib.hid (dcell_ok (cap := cap) cs hS hbd hlen u u0 u1)
  have HW := Lib.hid (fun y : World => Sh.dword_ok (w := y) u u0 u1)
  have HG := Lib.hid (fun y (k : Kept [] w y) i (i0 : -9223372036854775808 ≤ i) (i1 : i ≤ 9223372036854775807) => Tb.dget_ok (c := d) (hB.keep0 k) hln i i0 i1)
  have HO : Hid (slotA (slD l) cs u = match celA cs u with
    | some c => if c.h.tg = 1 ∧ 0 ≤ wordR u - 2 * c.a - 1 ∧ wordR u - 2 * c.a - 1 < slD l c then some (c.a, wordR u - 2 * c.a - 1) else none
    | none => none) := Lib.hid rfl
  have hM : ∀ c, celA cs u = some c → (0 ≤ c.a ∧ c.a ≤ 1000000) ∧ (-9223372036854775808 ≤ c.h.ty ∧ c.h.ty ≤ 9223372036854775807) := fun c hc => by
    have hm : c ∈ cs := by
      unfold celA at hc
      split at hc
      · exact (celW_mem hc).1
      · cases hc
    obtain ⟨h1, h2, _⟩ := hbd c hm
    exact ⟨⟨h1, h2⟩, hty c hm⟩
  have hn : 0 ≤ wordR u ∧ wordR u < 65536 := by unfold wordR; split <;> omega
  clear hS hbd hB hty
  generalize slotA (slD l) cs u = ov at *
  cases hc : celA cs u with
  | none =>
    rw [hc] at HC HO
    have ho : ov = none := HO.out
    subst ho
    clear HO hc hM
    unfold Option.getD Option.isSome Cel.val Cel.zero Hd.zero at HC
    simp only at HC
    go_enter Tryz.func15, Tryz.ntmps15
    go_wp2_with fail
    refine HC.out.mono ?_
    rintro e y ⟨rfl, k⟩
    have HK := Lib.hid (k.alloc (.cells #[.int .i64 0, .int .u8 0, .int .i64 0, .int .i64 0, .int .i64 0] 37))
    clear k HC
    go_wp2_with fail
    go_ret3
    exact ⟨rfl, HK.out⟩
  | some c =>
    obtain ⟨⟨a0, a1⟩, t0, t1⟩ := hM c hc
    rw [hc] at HC HO
    have HO2 : Hid (ov = if c.h.tg = 1 ∧ 0 ≤ wordR u - 2 * c.a - 1 ∧ wordR u - 2 * c.a - 1 < slD l c then some (c.a, wordR u - 2 * c.a - 1) else none) := Lib.hid HO.out
    have HG2 := Lib.hid (fun y k => HG.out y k c.h.ty t0 t1)
    have HSl := Lib.hid (fun y => Kd.slotsDoc_ok (getT l c.h.ty).k (getT l c.h.ty).wd (getT l c.h.ty).ms c.h.ln (getD_ok hl _) y)
    have hsd : Kd.slotsR (getT l c.h.ty).k (getT l c.h.ty).wd (getT l c.h.ty).ms c.h.ln = slD l c := rfl
    rw [hsd] at HSl
    clear HO hc hM hsd HG hl
    unfold Option.getD Option.isSome Cel.val at HC
    unfold typV at HSl
    unfold Tb.Ty.val at HG2
    simp only at HC
    have HCl : Hid (∀ y : World, Has (y.alloc (.cells #[.int .i64 c.a, .int .u8 c.h.tg, .int .i64 c.h.ty, .int .i64 c.h.ln, .int .i64 c.h.sz] 37)) y.heap.size 37 [.int .i64 c.a, .int .u8 c.h.tg, .int .i64 c.h.ty, .int .i64 c.h.ln, .int .i64 c.h.sz]) := Lib.hid fun y => Has.new y _ _
    generalize slD l c = sl at *
    generalize Kd.err (getT l c.h.ty).k (getT l c.h.ty).wd (getT l c.h.ty).ms c.h.ln = er at *
    generalize errT (hasT l c.h.ty) = eg at *
    generalize getT l c.h.ty = t at *
    obtain ⟨tk, tw, tm⟩ := t
    obtain ⟨ca, ⟨ct, cy, cl, cz⟩⟩ := c
    generalize wordR u = n at *
    generalize wordB u = b at *
    simp only at *
    have hw1 : IntKind.i64.wrap (2 * ca) = 2 * ca := by rw [IntKind.wrap_i64]; omega
    have hw2 : IntKind.i64.wrap (n - 2 * ca) = n - 2 * ca := by rw [IntKind.wrap_i64]; omega
    have hw3 : IntKind.i64.wrap (n - 2 * ca - 1) = n - 2 * ca - 1 := by rw [IntKind.wrap_i64]; omega
    by_cases ht : ct = 1
    · subst ht
      go_enter Tryz.func15, Tryz.ntmps15
      go_wp2_with fail
      refine HC.out.mono ?_
      rintro e y ⟨rfl, k⟩
      have hcl := HCl.out y
      obtain ⟨d0, d1, d2, d3, d4⟩ := cells5 hcl
      have KA := Lib.hid (k.alloc (.cells #[.int .i64 ca, .int .u8 1, .int .i64 cy, .int .i64 cl, .int .i64 cz] 37))
      have HCa := Lib.hid hcl
      clear k HC HCl hcl
      go_wp2_with fail
      generalize y.alloc (.cells #[.int .i64 ca, .int .u8 1, .int .i64 cy, .int .i64 cl, .int .i64 cz] 37) = y1 at *
      generalize y.heap.size = cb at *
      refine (HW.out _).mono ?_
      rintro e y ⟨rfl, rfl⟩
      have HGc := Lib.hid (HG2.out _ KA.out)
      clear HW HG2
      go_wp2_with fail
      refine HGc.out.mono ?_
      rintro e y2 ⟨rfl, k2⟩
      have hc2 := HCa.out.keep0 (k2.alloc (.cells #[.int .u8 (tk : Int), .int .i64 tw, .int .u64 (tm : Int)] 68))
      have K2 := Lib.hid (KA.out.trans (k2.alloc (.cells #[.int .u8 (tk : Int), .int .i64 tw, .int .u64 (tm : Int)] 68)))
      have ht2 := Has.new y2 68 [.int .u8 (tk : Int), .int .i64 tw, .int .u64 (tm : Int)]
      clear d0 d1 d2 d3 d4
      obtain ⟨d0, d1, d2, d3, d4⟩ := cells5 hc2
      obtain ⟨e0, e1, e2⟩ := Tb.cells3 ht2
      have HC2 := Lib.hid hc2
      clear hc2 ht2 k2 HGc HCa KA
      go_wp2_with fail
      generalize y2.alloc (.cells #[.int .u8 (tk : Int), .int .i64 tw, .int .u64 (tm : Int)] 68) = y3 at *
      refine (HSl.out _).mono ?_
      rintro e y4 ⟨rfl, k4⟩
      have hc4 := HC2.out.keep0 k4
      have K4 := Lib.hid (K2.out.trans k4)
      clear d0 d1 d2 d3 d4 e0 e1 e2
      obtain ⟨d0, d1, d2, d3, d4⟩ := cells5 hc4
      clear hc4 k4 HSl HC2 K2
      by_cases h0 : n - 2 * ca - 1 < 0
      · obtain rfl : ov = none := by rw [HO2.out, if_neg (by omega)]
        go_wp2_with fail
        go_ret3
        exact ⟨rfl, K4.out⟩
      · by_cases h1 : sl ≤ n - 2 * ca - 1
        · obtain rfl : ov = none := by rw [HO2.out, if_neg (by omega)]
          go_wp2_with fail
          go_ret3
          exact ⟨rfl, K4.out⟩
        · obtain rfl : ov = some (ca, n - 2 * ca - 1) := by rw [HO2.out, if_pos (by refine ⟨by trivial, by omega, by omega⟩)]
          go_wp2_with fail
          go_ret3
          exact ⟨rfl, K4.out⟩
    · obtain rfl : ov = none := by rw [HO2.out, if_neg fun h => ht h.1]
      have hne : (ct != 1) = true := by simpa using ht
      clear HO2 ht
      go_enter Tryz.func15, Tryz.ntmps15
      go_wp2_with fail
      refine HC.out.mono ?_
      rintro e y ⟨rfl, k⟩
      obtain ⟨d0, d1, d2, d3, d4⟩ := cells5 (HCl.out y)
      have HK := Lib.hid (k.alloc (.cells #[.int .i64 ca, .int .u8 ct, .int .i64 cy, .int .i64 cl, .int .i64 cz] 37))
      clear k HC HCl
      go_wp2_with fail
      go_ret3
      exact ⟨rfl, HK.out⟩
end
end Go.Proofs.YtdfnphgjjodfoaaGreatDoor.Fd

/-
  The law FindTells returns true.
-/
namespace Go.Proofs.YtdfnphgjjodfoaaGreatDoor.Fd
open Go.RowKit Go.Proofs.YtdfnphgjjodfoaaGreatDoor.Ar Go.Proofs.YtdfnphgjjodfoaaGreatDoor.Wk
open Go.Proofs.YtdfnphgjjodfoaaGreatDoor.Sp hiding Own own_from own_put back_own Seen own_cells seen_one
open Go.Proofs.YtdfnphgjjodfoaaGreatDoor.Hd (Hd Fields)
open Go.Proofs.YtdfnphgjjodfoaaGreatDoor.Tb (Ty Tab newF)
open Go.Proofs.YtdfnphgjjodfoaaGreatDoor.Wd (Table)
open Go.Proofs.YtdfnphgjjodfoaaGreatDoor.Sh (wordR wordB)
set_option linter.unusedVariables false

/-- A guarded operation whose guard is met is the operation. -/
theorem wpList_unguard {P : Program} {ops : Array Oper} {Q : Exit → Act → World → Prop} {a : Act} {w : World} {rest : List Oper} {o : Oper} (hw : Region.wanted o (yielded ops a.tmps) = true)
    (h : wpList P ops Q ({ o with guard := none } :: rest) a w) : wpList P ops Q (o :: rest) a w := by
  unfold wpList at *
  rw [if_pos hw]
  rw [if_pos (by simp [Region.wanted])] at h
  exact h

section
variable {w : World}
set_option maxRecDepth 100000 in
set_option maxHeartbeats 16000000 in
theorem tells_walk (a0 : Int) (b0 : -9223372036854775808 ≤ a0 ∧ a0 ≤ 9223372036854775807) (A1 : Option Addr) (l : List Ty) (cap1 : Nat) (A2 : Option Addr) (L : List Stp) (cap2 : Nat) (u3 : Int) (u30 : 0 ≤ u3 ∧ u3 < 18446744073709551616) (A4 : Option Addr) (us : List Int) (cap4 : Nat) (hl4 : us.length ≤ maxLen) (hs4 : Ar.Seen w A4 us) (hn4 : A4 = none → cap4 = 0) (hu4 : ∀ u ∈ us, 0 ≤ u ∧ u < 18446744073709551616) (hF : Fields w) (hTb : Table w)
    (hl : l.length ≤ maxLen) (hS1 : Tb.Seen w A1 l) (hok1 : ∀ t ∈ l, t.ok) (hL : L.length ≤ maxLen) (hS2 : Sp.Steps w A2 L) (hok2 : ∀ s ∈ L, s.ok) (hrd : ∀ s ∈ L, Wk.Read w s) :
    Calls Tryz.prog 3 #[.int .i64 a0, .slice A1 l.length cap1, .slice A2 L.length cap2, .int .u64 u3, .slice A4 us.length cap4] w fun e w' => e = .returned (.bool true) ∧ Kept [] w w' := by
  have HA := Lib.hid (fun y (k : Kept [] w y) => alive11_ok (hF.keep0 k) (table_keep0 hTb k))
  have HH := Lib.hid (heavy2_ok a0 A1 l.length cap1 A2 L cap2 hS2 (fun s hs => (hrd s hs).few) hl hL)
  have HPl := Lib.hid (fun (h1 : l.length ≤ 100000) (h2 : L.length ≤ 100000) (h3 : ∀ st ∈ L, st.len ≤ 300) => played_ok a0 b0 A1 l cap1 A2 L cap2 hF hTb h1 h2 hS1 hok1 hS2 hok2 hrd h3)
  have HS1 := Lib.hid hS1
  have HOk1 := Lib.hid hok1
  have HS4 := Lib.hid hs4
  have HU4 := Lib.hid hu4
  clear hs4 hu4
  clear hF hTb hS1 hok1 hS2 hok2 hrd hl hL
  go_enter Tryz.func3, Tryz.ntmps3
  go_wp2_with fail
  refine HH.out.mono ?_
  rintro e y ⟨⟨b, rfl, hb⟩, rfl⟩
  clear HH
  cases b with
  | true =>
    clear hb
    go_wp2_with fail
    refine (HA.out _ (Kept.refl [] w)).mono ?_
    rintro e y ⟨rfl, hk⟩
    have HK := Lib.hid (((Kept.refl [] w)).trans hk)
    clear hk
    go_wp2_with fail
    go_ret
    exact ⟨rfl, HK.out⟩
  | false =>
    obtain ⟨⟨hn, hl, hL⟩, hEa⟩ := hb rfl
    have HPl := Lib.hid (HPl.out (by omega) (by omega) hEa)
    clear hb hEa
    by_cases hgd : 60 < us.length
    · have hgd2 := hgd
      go_wp2_with fail
      refine (HA.out _ (Kept.refl [] w)).mono ?_
      rintro e y ⟨rfl, hk⟩
      have HK := Lib.hid (((Kept.refl [] w)).trans hk)
      clear hk
      go_wp2_with fail
      go_ret
      exact ⟨rfl, HK.out⟩
    · skip
      go_wp2_with fail
      refine HPl.out.mono ?_
      rintro e x1 (⟨rfl, k1⟩ | ⟨s, r, ws, bs, cs, rfl, hD, hn0⟩)
      · have K1 := Lib.hid k1
        clear k1 HPl
        go_wp2_with fail
        refine (HA.out _ K1.out).mono ?_
        rintro e y ⟨rfl, hk⟩
        have HK := Lib.hid ((K1.out).trans hk)
        clear hk
        go_wp2_with fail
        go_ret
        exact ⟨rfl, HK.out⟩
      · clear HPl
        have hT := hD.mine.snd.tiled
        have hsh := hD.mine.spc.short
        have hgl := hD.mine.snd.len
        have hgs := hD.size
        have hg : gran ws ≤ 32768 := by unfold gran; omega
        have hbd := bounds_of hT hg
        have hmost : cs.length ≤ 32768 := by
          have := tiled_len hT
          omega
        have HCl : ∀ y, Kept [] x1 y → ∀ x, Kept [] y x → Calls Tryz.prog 19 #[.pointer (some ⟨s.sp, 0, none⟩)] x fun e z => ∃ v, e = .returned v ∧ Sp.Own z v cs ∧ Sp.FreshV x v ∧ Kept [] x z := fun y hy x hx => allCells_ok (hD.mine.glob.f.keep0 (hy.trans hx)) (hD.mine.spc.keep0 (hy.trans hx)) cs hD.mine.snd.scans
        have HCe := Lib.hid (fun y (k : Kept [] x1 y) u u0 u1 => fcell_ok hT hg (HCl y k) u u0 u1)
        have HOf := Lib.hid (fun y (k : Kept [] x1 y) u u0 u1 => fof_ok hT hg (HCl y k) u u0 u1)
        have HSl := Lib.hid (fun y (k : Kept [] x1 y) u u0 u1 => fslot_ok (hD.mine.glob.f.keep0 k) (hD.mine.spc.keep0 k) hT u u0 u1)
        have HK1 := Lib.hid hD.mine.kept
        have HAl : Hid (∀ y, Kept [] x1 y → ∀ (A : Option Addr) (cap : Nat) (us : List Int), Rw y A us → (∀ u ∈ us, 0 ≤ u ∧ u < 18446744073709551616) → us.length ≤ 1000000 → Calls Tryz.prog 17 #[.pointer (some ⟨s.sp, 0, none⟩), .slice A us.length cap] y fun e z => ∃ v, e = .returned v ∧ Ir.Own z v (allA cs us) ∧ Sp.FreshV y v ∧ Kept [] y z) := Lib.hid fun y k A cap us hA hu hl => fall_ok hT hg (HCl y k) us hA hu hl
        obtain ⟨q, cap, hd, hq⟩ := hD.doc
        have HAc := Lib.hid (all_ok hd ((fit_of hD.mine HS1.out).keep0 hD.mine.kept))
        have hty : ∀ c ∈ cs, -9223372036854775808 ≤ c.h.ty ∧ c.h.ty ≤ 9223372036854775807 := fun c hc => by
          obtain ⟨_, _, h3, _⟩ := hT.mem c hc
          unfold Hd.can at h3
          omega
        have hsl : ∀ u, slotA (slD l) cs u = slotA (slC ws l) cs u := slotA_same fun c hc ht => slD_slC hT hc ht
        clear hD hd hq HCl
        go_wp2_with fail
        refine HAc.out.mono ?_
        rintro e y8 ⟨vc, rfl, hoc, _, k8⟩
        obtain ⟨Ac, cc, rfl, _⟩ := Sp.back_own (Kept.refl [] _) hoc
        have D1 := Lib.hid (fun y (k : Kept [] y8 y) => dcell_ok (cap := cc) cs (hoc.seen.keep0 k) hbd (by omega) u3 u30.1 u30.2)
        have D2 := Lib.hid (fun y (k : Kept [] y8 y) => dof_ok (cap := cc) cs (hoc.seen.keep0 k) hbd (by omega) u3 u30.1 u30.2)
        have D3 := Lib.hid (fun y (k : Kept [] y8 y) => dslot_ok (cap := cc) (d := cap1) cs (hoc.seen.keep0 k) hbd (by omega) u3 u30.1 u30.2 (HS1.out.keep0 ((HK1.out.trans k8).trans k)) HOk1.out (by omega) hty)
        rw [hsl] at D3
        have D4 : Hid (∀ y, Kept [] y8 y → Calls Tryz.prog 18 #[.slice Ac cs.length cc, .slice A4 us.length cap4] y fun e z => ∃ v, e = .returned v ∧ Ir.Own z v (allA cs us) ∧ Sp.FreshV y v ∧ Kept [] y z) := Lib.hid fun y k => dall_ok (cap := cc) (d := cap4) cs (hoc.seen.keep0 k) hbd (by omega) us (HS4.out.keep0 ((HK1.out.trans k8).trans k)) HU4.out (by omega)
        have C1 := Lib.hid (fun y (k : Kept [] y8 y) => HCe.out y (k8.trans k) u3 u30.1 u30.2)
        have C2 := Lib.hid (fun y (k : Kept [] y8 y) => HOf.out y (k8.trans k) u3 u30.1 u30.2)
        have C3 := Lib.hid (fun y (k : Kept [] y8 y) => HSl.out y (k8.trans k) u3 u30.1 u30.2)
        have C4 := Lib.hid (fun y (k : Kept [] y8 y) => HAl.out y (k8.trans k))
        have HSe := Lib.hid (HS4.out.keep0 (HK1.out.trans k8))
        have HA8 := Lib.hid (fun y (k : Kept [] y8 y) => HA.out y ((HK1.out.trans k8).trans k))
        have HW8 := Lib.hid (HK1.out.trans k8)
        have HLn : Hid ((allA cs us).length ≤ 65536) := Lib.hid (by have := allA_len cs us; omega)
        clear hoc k8 hbd hty hsl HAc HCe HOf HSl HAl HA HK1 HS1 HOk1 HS4 hT
        generalize hgl9 : allA cs us = gl at *
        have HGl := Lib.hid hgl9
        clear hgl9
        generalize ((slotA (Fd.slC ws l) cs u3).getD (0, 0)).1 = s1 at *
        generalize ((slotA (Fd.slC ws l) cs u3).getD (0, 0)).2 = s2 at *
        generalize (slotA (Fd.slC ws l) cs u3).isSome = s3 at *
        generalize (ofA cs u3).getD 0 = o1 at *
        generalize (ofA cs u3).isSome = o2 at *
        generalize (celA cs u3).isSome = c2 at *
        generalize (celA cs u3).getD Cel.zero = x at *
        obtain ⟨xa, ⟨xt, xy, xl, xz⟩⟩ := x
        unfold Cel.val at C1 D1
        simp only at C1 D1
        generalize cs.length = nc at *
        go_wp2_with fail
        refine (C1.out _ (Kept.refl _ _)).mono ?_
        rintro e z1 ⟨rfl, k1⟩
        have b1 := Has.new z1 37 [.int .i64 xa, .int .u8 xt, .int .i64 xy, .int .i64 xl, .int .i64 xz]
        have K1 := Lib.hid (k1.alloc (.cells #[.int .i64 xa, .int .u8 xt, .int .i64 xy, .int .i64 xl, .int .i64 xz] 37))
        have B1 := Lib.hid b1
        clear k1 b1 C1
        go_wp2_with fail
        generalize z1.alloc (.cells #[.int .i64 xa, .int .u8 xt, .int .i64 xy, .int .i64 xl, .int .i64 xz] 37) = y1 at *
        generalize z1.heap.size = q1 at *
        refine (D1.out _ K1.out).mono ?_
        rintro e z2 ⟨rfl, k2⟩
        have b2 := Has.new z2 37 [.int .i64 xa, .int .u8 xt, .int .i64 xy, .int .i64 xl, .int .i64 xz]
        have k2a := k2.alloc (.cells #[.int .i64 xa, .int .u8 xt, .int .i64 xy, .int .i64 xl, .int .i64 xz] 37)
        have K2 := Lib.hid (K1.out.trans k2a)
        have B12 := Lib.hid (B1.out.keep0 k2a)
        have B2 := Lib.hid b2
        clear k2 b2 k2a D1 B1 K1
        go_wp2_with fail
        generalize z2.alloc (.cells #[.int .i64 xa, .int .u8 xt, .int .i64 xy, .int .i64 xl, .int .i64 xz] 37) = y2 at *
        generalize z2.heap.size = q2 at *
        refine (C2.out _ K2.out).mono ?_
        rintro e z3 ⟨rfl, k3⟩
        have K3 := Lib.hid (K2.out.trans k3)
        have B13 := Lib.hid (B12.out.keep0 k3)
        have B23 := Lib.hid (B2.out.keep0 k3)
        clear k3 C2 K2 B12 B2
        go_wp2_with fail
        refine (D2.out _ K3.out).mono ?_
        rintro e z4 ⟨rfl, k4⟩
        have K4 := Lib.hid (K3.out.trans k4)
        have B14 := Lib.hid (B13.out.keep0 k4)
        have B24 := Lib.hid (B23.out.keep0 k4)
        clear k4 D2 K3 B13 B23
        go_wp2_with fail
        refine (C3.out _ K4.out).mono ?_
        rintro e z5 ⟨rfl, k5⟩
        have K5 := Lib.hid (K4.out.trans k5)
        have B15 := Lib.hid (B14.out.keep0 k5)
        have B25 := Lib.hid (B24.out.keep0 k5)
        clear k5 C3 K4 B14 B24
        go_wp2_with fail
        refine (D3.out _ K5.out).mono ?_
        rintro e z6 ⟨rfl, k6⟩
        have K6 := Lib.hid (K5.out.trans k6)
        obtain ⟨e0, e1, e2, e3, e4⟩ := cells5 (B15.out.keep0 k6)
        obtain ⟨f0, f1, f2, f3, f4⟩ := cells5 (B25.out.keep0 k6)
        clear k6 D3 K5 B15 B25
        have hse := fun y => run_same y xa xt xy xl xz xa xt xy xl xz
        have hng := no_guard
        have hqe := eqC_refl xa xt xy xl xz
        go_wp2_with (at_builtin; (refine wpList_unguard (by rfl) ?_; refine Ar.append_words rfl (.const (.slice none 0 0)) (.tmp 129) rfl (.slice none 0 0) [] rfl (Ar.Own.nil _) A4 us.length cap4 us rfl rfl hn4 (HSe.out.keep0 K6.out) (by simp only [List.length_nil]; omega) ?_))
        intro v7 z7 o7 g7 b7
        have k7 : Kept [] z6 z7 := own_grown (Kept.refl [] z6) (.inl rfl) g7
        have K7 := Lib.hid (K6.out.trans k7)
        obtain ⟨A7, c7, rfl, _⟩ := Ar.back_own (Kept.refl [] _) o7
        have HF7 := Lib.hid (C4.out _ K7.out A7 c7 us (rw_own o7) HU4.out (by omega))
        rw [HGl.out] at HF7
        clear o7 g7 b7 k7 K6 HSe C4 hse hng hqe e0 e1 e2 e3 e4 f0 f1 f2 f3 f4
        go_wp2_with fail
        refine HF7.out.mono ?_
        rintro e z8 ⟨v8, rfl, o8, _, k8⟩
        have K8 := Lib.hid (K7.out.trans k8)
        have O8 := Lib.hid o8
        clear o8 k8 HF7 K7
        go_wp2_with fail
        refine (D4.out _ K8.out).mono ?_
        rintro e z9 ⟨v9, rfl, o9, _, k9⟩
        have K9 := Lib.hid (K8.out.trans k9)
        have HSm := Lib.hid (Kd.same_own (O8.out.keep0 k9) o9 HLn.out HLn.out)
        rw [decide_eq_true (rfl : gl = gl)] at HSm
        clear o9 k9 O8 K8 D4
        go_wp2_with fail
        refine HSm.out.mono ?_
        rintro e z10 ⟨rfl, k10⟩
        have K10 := Lib.hid (K9.out.trans k10)
        clear k10 HSm K9
        go_wp2_with fail
        refine (HA8.out _ K10.out).mono ?_
        rintro e z11 ⟨rfl, k11⟩
        have K11 := Lib.hid (HW8.out.trans (K10.out.trans k11))
        clear k11 K10
        go_wp2_with fail
        go_ret
        exact ⟨rfl, K11.out⟩
end
end Go.Proofs.YtdfnphgjjodfoaaGreatDoor.Fd
