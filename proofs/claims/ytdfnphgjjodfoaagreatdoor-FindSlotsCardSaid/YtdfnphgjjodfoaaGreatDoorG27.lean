/-
  Several texts in one: ShDocMake, SpDocOps, SpPutNo, SpDocMake.
-/
import Derived.Test.YtdfnphgjjodfoaaGreatDoorG18
import Derived.Test.YtdfnphgjjodfoaaGreatDoorG16
import Derived.Test.YtdfnphgjjodfoaaGreatDoorG22
import Derived.Test.YtdfnphgjjodfoaaGreatDoorG26
import Derived.StillTail
import Derived.StillTailTactics
/-
  The contract of the document's Make.
-/
namespace Go.Proofs.YtdfnphgjjodfoaaGreatDoor.Sh
open Go.RowKit Go.Proofs.YtdfnphgjjodfoaaGreatDoor.Ar
open Go.Proofs.YtdfnphgjjodfoaaGreatDoor.Hd (Hd Fields encW errH ofL dof_row dencode_ok cells4 free4 of_facts can_obj errH_yes)
open Go.Proofs.YtdfnphgjjodfoaaGreatDoor.Tb (Ty sizeE sizeT)
set_option linter.unusedVariables false

/-- The block g begins with these words. -/
def Lay (w : World) (g : Nat) (l : List Int) : Prop := ∃ rest, Has w g 24 (ints l ++ rest)
theorem Lay.keep0 {w w' : World} {g : Nat} {l : List Int} (h : Lay w g l) (k : Kept [] w w') : Lay w' g l := by
  obtain ⟨r, h⟩ := h
  exact ⟨r, h.keep0 k⟩
theorem Lay.seen {w : World} {g : Nat} {l : List Int} (h : Lay w g l) : Seen w (some ⟨g, 0, none⟩) l := by
  obtain ⟨r, h⟩ := h
  refine fun _ => ⟨g, 0, rfl, h.lt, fun j v hv => ?_⟩
  rw [Nat.zero_add, h.cell]
  rw [List.getElem?_append_left]
  · exact hv
  · rw [List.getElem?_eq_some_iff] at hv
    exact hv.1
theorem Lay.cell {w : World} {g : Nat} {l : List Int} (h : Lay w g l) (j : Nat) (hj : j < l.length) : w.cell? ⟨g, j, none⟩ = some (.int .u64 (l.getD j 0)) := by
  obtain ⟨r, h⟩ := h
  rw [h.cell, List.getElem?_append_left (by rw [ints_length]; exact hj)]
  exact ints_get l j hj
theorem Lay.free {w : World} {g : Nat} {l : List Int} (h : Lay w g l) (j : Nat) : w.frozen? ⟨g, j, none⟩ = false := by
  obtain ⟨r, h⟩ := h
  exact h.free j
theorem Lay.put {w : World} {g : Nat} {l : List Int} (h : Lay w g l) (j : Nat) (u : Int) (hj : j < l.length) : Lay (w.setCell ⟨g, j, none⟩ (.int .u64 u)) g (l.set j u) := by
  obtain ⟨r, h⟩ := h
  have := h.put j (.int .u64 u)
  rw [List.set_append_left _ _ (by rw [ints_length]; exact hj), ints_set] at this
  exact ⟨r, this⟩
theorem Lay.lt {w : World} {g : Nat} {l : List Int} (h : Lay w g l) : g < w.heap.size := by
  obtain ⟨r, h⟩ := h
  exact h.lt
theorem lay_of_own {w : World} {v : Value} {l : List Int} (h : Ar.Own w v l) (hl : l ≠ []) : ∃ g cap, v = .slice (some ⟨g, 0, none⟩) l.length cap ∧ l.length ≤ cap ∧ Lay w g l := by
  rcases h.2 with ⟨_, h0⟩ | ⟨g, cap, cur, rfl, _, hg, hc, hm, _, ht⟩
  · exact absurd (List.eq_nil_of_length_eq_zero h0) hl
  · refine ⟨g, cap, rfl, hc, cur.toList.drop (l.length * 1), ?_⟩
    rw [← ht, List.take_append_drop]
    unfold Has
    simpa using hg
theorem lay_head (ws : List Int) (i k : Nat) (u : Int) (h : i + (k + 1) ≤ ws.length) : (putW ws i (List.replicate (k + 1) 0)).set i u = putW ws i (u :: List.replicate k 0) := by
  unfold putW
  rw [List.set_append_right _ _ (by rw [List.length_take]; omega), List.length_take, Nat.min_eq_left (by omega), Nat.sub_self, List.replicate_succ, List.cons_append, List.set_cons_zero]
  simp
theorem putW_none (ws : List Int) (i : Nat) : putW ws i [] = ws := by unfold putW; simp
section
variable {w : World}
end
end Go.Proofs.YtdfnphgjjodfoaaGreatDoor.Sh

/-
  The document's space in memory; the contracts of its gap and lay.
-/
namespace Go.Proofs.YtdfnphgjjodfoaaGreatDoor.Sp
open Go.RowKit Go.Proofs.YtdfnphgjjodfoaaGreatDoor.Ar Go.Proofs.YtdfnphgjjodfoaaGreatDoor.Sh
open Go.Proofs.YtdfnphgjjodfoaaGreatDoor.Hd (Hd Fields encW gapH errH dgap_ok dencode_ok cells4 free4)
open Go.Proofs.YtdfnphgjjodfoaaGreatDoor.Tb (Ty)
set_option linter.unusedVariables false

theorem lay_kept {S : List Nat} {w w' : World} {g : Nat} {l : List Int} (h : Sh.Lay w g l) (k : Kept S w w') (hg : g ∉ S) : Sh.Lay w' g l := by
  obtain ⟨r, h⟩ := h
  exact ⟨r, h.kept k hg⟩
/-- The document's space: its block, the block of its words. -/
structure DSp (x : World) (r q cap : Nat) (B : Option Addr) (d : Nat) (l : List Ty) (ws : List Int) : Prop where
  head : Has x r 74 [.slice (some ⟨q, 0, none⟩) ws.length cap, .slice B l.length d]
  row : Sh.Lay x q ws
  cap : ws.length ≤ cap
theorem DSp.kept {S : List Nat} {x y : World} {r q cap : Nat} {B : Option Addr} {d : Nat} {l : List Ty} {ws : List Int} (h : DSp x r q cap B d l ws) (k : Kept S x y) (hr : r ∉ S) (hq : q ∉ S) : DSp y r q cap B d l ws := ⟨h.head.kept k hr, lay_kept h.row k hq, h.cap⟩
theorem DSp.keep0 {x y : World} {r q cap : Nat} {B : Option Addr} {d : Nat} {l : List Ty} {ws : List Int} (h : DSp x r q cap B d l ws) (k : Kept [] x y) : DSp y r q cap B d l ws := h.kept k (by simp) (by simp)
theorem DSp.cells {x : World} {r q cap : Nat} {B : Option Addr} {d : Nat} {l : List Ty} {ws : List Int} (h : DSp x r q cap B d l ws) : x.cell? ⟨r, 0, none⟩ = some (.slice (some ⟨q, 0, none⟩) ws.length cap) ∧ x.cell? ⟨r, 1, none⟩ = some (.slice B l.length d) ∧ x.frozen? ⟨r, 0, none⟩ = false :=
  ⟨h.head.cell 0, h.head.cell 1, h.head.free 0⟩
theorem setG_set (ws : List Int) (m : Nat) (u : Int) (h : 2 * m < ws.length) : setG ws (m : Int) u = ws.set (2 * m) u := by
  have hw : Ar.within ws.length (2 * (m : Int)) 1 = true := (Ar.within_iff _ _ _).2 ⟨by omega, by omega, by omega⟩
  unfold setG fillW
  rw [if_pos hw, show List.replicate (1 : Int).toNat u = [u] from rfl, show (2 * (m : Int)).toNat = 2 * m by omega]
  exact putW_set _ _ _ h
section
variable {w : World}
set_option maxRecDepth 100000 in
set_option maxHeartbeats 1000000 in
theorem sgap_ok (z : Int) (z0 : -9223372036854775808 ≤ z) (z1 : z ≤ 9223372036854775807) :
    Calls Tryz.prog 129 #[.int .i64 z] w fun e w' => e = .returned (.int .u64 (gapW z)) ∧ Kept [] w w' := by
  have HG := Lib.hid (fun g (g0 : 0 ≤ g) (g1 : g ≤ 255) => dgap_ok (w := w) g z g0 g1 z0 z1)
  have HE := Lib.hid (fun y (x : Hd) (ok : x.ok) => dencode_ok (w := y) x ok)
  have HOK : Hid (∀ g : Int, 0 ≤ g → g ≤ 255 → (gapH g z).ok) := Lib.hid fun g g0 g1 => by
    unfold gapH
    split
    · constructor <;> simp <;> omega
    · exact Hd.zero_ok
  unfold gapW
  by_cases e1 : z = 1
  · rw [if_pos e1]
    have hok := Lib.hid (HOK.out 2 (by omega) (by omega))
    have hg := Lib.hid (HG.out 2 (by omega) (by omega))
    have he1 : (z == 1) = true := by simpa using e1
    clear HOK HG e1
    generalize errH ⟨2, 0, 0, z⟩ = er at *
    generalize gapH 2 z = x at *
    have HX := Lib.hid (fun y => HE.out y x hok.out)
    clear HE
    generalize encW x = u at *
    generalize errH x = er2 at *
    unfold Hd.val at *
    generalize x.tg = xg at *
    generalize x.ty = xt at *
    generalize x.ln = xn at *
    generalize x.sz = xs at *
    go_enter Tryz.func129, Tryz.ntmps129
    go_wp2_with fail
    refine hg.out.mono ?_
    rintro e w1 ⟨rfl, hk⟩
    have hb := Has.new w1 35 [.int .u8 xg, .int .i64 xt, .int .i64 xn, .int .i64 xs]
    obtain ⟨c0, c1, c2, c3⟩ := cells4 hb
    have HK := Lib.hid (hk.alloc (.cells #[.int .u8 xg, .int .i64 xt, .int .i64 xn, .int .i64 xs] 35))
    clear hb hk hg
    go_wp2_with fail
    refine (HX.out _).mono ?_
    rintro e w2 ⟨rfl, hk⟩
    go_wp2_with fail
    go_ret
    exact ⟨rfl, HK.out.trans hk⟩
  · rw [if_neg e1]
    have hok := Lib.hid (HOK.out 3 (by omega) (by omega))
    have hg := Lib.hid (HG.out 3 (by omega) (by omega))
    have he1 : (z == 1) = false := by simpa using e1
    clear HOK HG e1
    generalize errH ⟨3, 0, 0, z⟩ = er at *
    generalize gapH 3 z = x at *
    have HX := Lib.hid (fun y => HE.out y x hok.out)
    clear HE
    generalize encW x = u at *
    generalize errH x = er2 at *
    unfold Hd.val at *
    generalize x.tg = xg at *
    generalize x.ty = xt at *
    generalize x.ln = xn at *
    generalize x.sz = xs at *
    go_enter Tryz.func129, Tryz.ntmps129
    go_wp2_with fail
    refine hg.out.mono ?_
    rintro e w1 ⟨rfl, hk⟩
    have hb := Has.new w1 35 [.int .u8 xg, .int .i64 xt, .int .i64 xn, .int .i64 xs]
    obtain ⟨c0, c1, c2, c3⟩ := cells4 hb
    have HK := Lib.hid (hk.alloc (.cells #[.int .u8 xg, .int .i64 xt, .int .i64 xn, .int .i64 xs] 35))
    clear hb hk hg
    go_wp2_with fail
    refine (HX.out _).mono ?_
    rintro e w2 ⟨rfl, hk⟩
    go_wp2_with fail
    go_ret
    exact ⟨rfl, HK.out.trans hk⟩
end
/-- What a method of the document's space leaves: its words, and which blocks have turned. -/
def Doc (x y : World) (r q : Nat) (B : Option Addr) (d : Nat) (l : List Ty) (ws : List Int) : Prop := ∃ q' cap', DSp y r q' cap' B d l ws ∧ (q' = q ∨ x.heap.size ≤ q') ∧ Kept [r] x y
theorem Doc.same {x y : World} {r q cap : Nat} {B : Option Addr} {d : Nat} {l : List Ty} {ws : List Int} (h : DSp x r q cap B d l ws) (k : Kept [] x y) : Doc x y r q B d l ws := ⟨q, cap, h.keep0 k, .inl rfl, k.none _⟩
section
variable {x : World} {r q cap : Nat} {B : Option Addr} {d : Nat} {l : List Ty} {ws : List Int}
set_option maxRecDepth 100000 in
set_option maxHeartbeats 1000000 in
theorem lay_no (g n : Int) (hn : n < 1) : Calls Tryz.prog 88 #[.pointer (some ⟨r, 0, none⟩), .int .i64 g, .int .i64 n] x fun e y => (∃ v, e = .returned v) ∧ x = y := by
  go_enter Tryz.func88, Tryz.ntmps88
  go_wp2_with fail
  first | go_end0 | refine bodyPost_ret (results_none rfl _ _ _) rfl ?_
  exact ⟨⟨_, rfl⟩, rfl⟩
set_option maxRecDepth 100000 in
set_option maxHeartbeats 1000000 in
theorem lay_yes (h : DSp x r q cap B d l ws) (hl : ws.length ≤ 65536) (m : Nat) (n : Int) (hm : 2 * m < ws.length) (n0 : 1 ≤ n) (n1 : n ≤ 9223372036854775807) :
    Calls Tryz.prog 88 #[.pointer (some ⟨r, 0, none⟩), .int .i64 (m : Int), .int .i64 n] x fun e y => (∃ v, e = .returned v) ∧ Doc x y r q B d l (setG ws (m : Int) (gapW n)) := by
  obtain ⟨c0, c1, f0⟩ := h.cells
  have hne : ws ≠ [] := by rintro rfl; simp at hm
  have HS := Lib.hid h.row.seen
  have HH := Lib.hid h
  have HG := Lib.hid (fun y => sgap_ok (w := y) n (by omega) n1)
  have hset := Lib.hid (setG_set ws m (gapW n) hm)
  have hlen := Lib.hid (setG_length ws (m : Int) (gapW n))
  have HNe := Lib.hid hne
  have Hcap := Lib.hid h.cap
  clear h hne
  generalize gapW n = u at *
  obtain ⟨L, hLL⟩ : ∃ L, L = ws.length := ⟨_, rfl⟩
  rw [← hLL] at hl hm hlen Hcap c0
  have HLL := Lib.hid hLL
  clear hLL
  go_enter Tryz.func88, Tryz.ntmps88
  go_wp2_with (at_builtin; (refine append_words rfl (.const (.slice none 0 0)) (.tmp 12) rfl (.slice none 0 0) [] rfl (Ar.Own.nil _) (some ⟨q, 0, none⟩) L cap ws rfl HLL.out.symm (fun h => by cases h) HS.out (show 0 + L ≤ 1073741824 by omega) ?_))
  intro v2 x2 hO2 hG2 hB2
  have hK2 : Kept [] x x2 := own_grown (Kept.refl [] x) (.inl rfl) hG2
  have hF2 := own_fresh (Kept.refl [] x) (.inl rfl) hB2
  obtain ⟨gb, cap2, rfl, hcap, hlay2⟩ := lay_of_own hO2 HNe.out
  have hgb : x.heap.size ≤ gb := by
    rcases hF2 with h | ⟨b, h, hle⟩
    · cases h
    · injection h with h
      rw [show gb = b from h]; exact hle
  rw [← HLL.out] at hcap ⊢
  have HK2 := Lib.hid hK2
  have HLy2 := Lib.hid hlay2
  have Hgb := Lib.hid hgb
  have HCp := Lib.hid hcap
  clear hO2 hG2 hB2 hK2 hF2 hlay2 hgb HS c0 c1 f0 hcap
  go_wp2_with fail
  refine (HG.out _).mono ?_
  rintro e x3 ⟨rfl, k3⟩
  have hL3 := HLy2.out.keep0 k3
  have hK3 := HK2.out.trans k3
  have hD3 := HH.out.keep0 hK3
  have hc := hL3.cell (2 * m) (by rw [← HLL.out]; omega)
  have hf := hL3.free (2 * m)
  have hrq : r ≠ gb := by have := HH.out.head.lt; have := Hgb.out; omega
  obtain ⟨c0, c1, f0⟩ := hD3.cells
  have HFin : Hid (Doc x ((x3.setCell ⟨gb, 2 * m, none⟩ (.int .u64 u)).setCell ⟨r, 0, none⟩ (.slice (some ⟨gb, 0, none⟩) L cap2)) r q B d l (setG ws (m : Int) u)) := Lib.hid (by
    refine ⟨gb, cap2, ⟨?_, ?_, ?_⟩, .inr Hgb.out, ?_⟩
    · rw [hlen.out]
      exact (hD3.head.beside _ hrq _).put 0 _
    · rw [hset.out]
      obtain ⟨rest, hr⟩ := hL3.put (2 * m) u (by rw [← HLL.out]; omega)
      exact ⟨rest, hr.beside _ (Ne.symm hrq) _⟩
    · rw [hlen.out]; exact HCp.out
    · exact ((hK3.none _).setCell _ _ (.inr Hgb.out)).setCell _ _ (.inl (by simp)))
  have hidx : 2 * m < L := by omega
  have hD4 := hD3.head.beside ⟨gb, 2 * m, none⟩ hrq (.int .u64 u)
  have c0' := hD4.cell 0
  have f0' := hD4.free 0
  clear hL3 hK3 hD3 k3 HLy2 HK2 HG HH hD4
  go_wp2_with fail
  first | go_end0 | refine bodyPost_ret (results_none rfl _ _ _) rfl ?_
  exact ⟨⟨_, rfl⟩, HFin.out⟩
theorem lay_ok (h : DSp x r q cap B d l ws) (hl : ws.length ≤ 65536) (g n : Int) (g0 : 0 ≤ g) (hn : 1 ≤ n → g + n ≤ gran ws) (n1 : n ≤ 9223372036854775807) :
    Calls Tryz.prog 88 #[.pointer (some ⟨r, 0, none⟩), .int .i64 g, .int .i64 n] x fun e y => (∃ v, e = .returned v) ∧ Doc x y r q B d l (gapS ws g (g + n)) := by
  by_cases hc : n < 1
  · refine (lay_no g n hc).mono ?_
    rintro e y ⟨he, rfl⟩
    refine ⟨he, ?_⟩
    unfold gapS
    rw [if_neg (by omega)]
    exact Doc.same h (Kept.refl _ _)
  · obtain ⟨m, rfl⟩ := Int.eq_ofNat_of_zero_le g0
    have hb := hn (by omega)
    unfold gran at hb
    refine (lay_yes h hl m n (by omega) (by omega) n1).mono ?_
    rintro e y ⟨he, hd⟩
    refine ⟨he, ?_⟩
    unfold gapS
    rw [if_pos (by omega), show (m : Int) + n - m = n by omega]
    exact hd
end
end Go.Proofs.YtdfnphgjjodfoaaGreatDoor.Sp

/-
  The contract of Put where the granule is one of the space's: there is no room, or there is.
-/
namespace Go.Proofs.YtdfnphgjjodfoaaGreatDoor.Sp
open Go.RowKit Go.Proofs.YtdfnphgjjodfoaaGreatDoor.Ar Go.Proofs.YtdfnphgjjodfoaaGreatDoor.Sh Go.Sort
open Go.Proofs.YtdfnphgjjodfoaaGreatDoor.Hd (Hd Fields cells4 free4 ofL of_tab of_facts)
open Go.Proofs.YtdfnphgjjodfoaaGreatDoor.Tb (Ty Tab blk sizeE)
open Go.Proofs.YtdfnphgjjodfoaaGreatDoor.Bt (Bv atI prevO nextO)
open Go.Proofs.YtdfnphgjjodfoaaGreatDoor.Wd (Table)
set_option linter.unusedVariables false
section
variable {w : World} {s : Ids} {l : List Ty} {ws : List Int} {bs : List Bool}
set_option maxRecDepth 100000 in
set_option maxHeartbeats 4000000 in
theorem put_none (hG : Glob w s) (h : Spc w s l ws bs) (g i n : Int) (i0 : -9223372036854775808 ≤ i) (i1 : i ≤ 9223372036854775807) (he : sizeE l i n = 0) (g0 : 0 ≤ g) (g1 : g < gran ws)
    (cs : List Cel) (hC : Scans ws l (atI (prevO bs g)) cs) (x : Cel) (hgp : gapO cs g = some x) (x0 : 0 ≤ x.a ∧ x.a ≤ 100000) (x1 : 1 ≤ x.h.sz ∧ x.h.sz ≤ 100000)
    (hx : x.h.tg = 1 ∨ x.a + x.h.sz - g < (ofL l i n).sz) :
    Calls Tryz.prog 27 #[.pointer (some ⟨s.sp, 0, none⟩), .int .i64 g, .int .i64 i, .int .i64 n] w fun e w' => e = .returned (.int .i64 3) ∧ Kept [] w w' := by
  obtain ⟨c0, c1, c2⟩ := h.cells
  have hsh := h.short
  have hgr : 0 ≤ gran ws ∧ gran ws ≤ 32768 := by unfold gran; omega
  obtain ⟨sz, ho, s1, s2, j0, j1, n0, n1⟩ := of_facts he h.tab.len
  have HO := Lib.hid (of_tab h.tab i n i0 i1)
  have HGr := Lib.hid (fun y (k : Kept [] w y) => granules_ok (h.keep0 k))
  have HGp := Lib.hid (fun y (k : Kept [] w y) => gap_ok (hG.keep0 k).f (h.keep0 k) g (by omega) (by omega) cs hC)
  rw [hgp] at HGp
  rw [ho, he] at HO
  rw [ho] at hx
  have HN : Hid (∀ y : World, Has (y.alloc (.cells #[.int .u8 1, .int .i64 i, .int .i64 n, .int .i64 sz] 35)) y.heap.size 35 [.int .u8 1, .int .i64 i, .int .i64 n, .int .i64 sz]) := Lib.hid fun y => Has.new y _ _
  have HBh := Lib.hid (fun X => behind_ok x (by omega) (by omega) (by omega) (by omega) X)
  unfold Hd.val at HO
  unfold gapC gapB Option.getD at HGp
  obtain ⟨xa, ⟨xt, xy, xl, xz⟩⟩ := x
  have HNc : Hid (∀ y : World, Has (y.alloc (.cells #[.int .i64 xa, .int .u8 xt, .int .i64 xy, .int .i64 xl, .int .i64 xz] 37)) y.heap.size 37 [.int .i64 xa, .int .u8 xt, .int .i64 xy, .int .i64 xl, .int .i64 xz]) := Lib.hid fun y => Has.new y _ _
  unfold Cel.val at HGp HBh
  simp only at *
  clear h hG he hC hgp ho
  generalize gran ws = G at *
  by_cases ht : xt = 1
  · have hb1 : (xt != 1) = false := by rw [ht]; rfl
    clear hx ht
    go_enter Tryz.func27, Tryz.ntmps27
    go_wp2_with fail
    refine HO.out.mono ?_
    rintro e w1 ⟨rfl, hk⟩
    have K1 := Lib.hid (hk.alloc (.cells #[.int .u8 1, .int .i64 i, .int .i64 n, .int .i64 sz] 35))
    have B1 := Lib.hid (HN.out w1)
    clear hk HO HN c0 c1 c2
    go_wp2_with fail
    generalize w1.alloc (.cells #[.int .u8 1, .int .i64 i, .int .i64 n, .int .i64 sz] 35) = y1 at *
    generalize w1.heap.size = b9 at *
    refine (HGr.out _ K1.out).mono ?_
    rintro e w2 ⟨rfl, rfl⟩
    go_wp2_with fail
    refine (HGp.out _ K1.out).mono ?_
    rintro e w3 ⟨rfl, hk⟩
    have K3 := Lib.hid ((K1.out.trans hk).alloc (.cells #[.int .i64 xa, .int .u8 xt, .int .i64 xy, .int .i64 xl, .int .i64 xz] 37))
    have B3 := Lib.hid ((B1.out.keep0 hk).alloc (.cells #[.int .i64 xa, .int .u8 xt, .int .i64 xy, .int .i64 xl, .int .i64 xz] 37))
    have C3 := Lib.hid (HNc.out w3)
    clear hk HGp HGr HNc B1 K1
    go_wp2_with fail
    generalize w3.alloc (.cells #[.int .i64 xa, .int .u8 xt, .int .i64 xy, .int .i64 xl, .int .i64 xz] 37) = y3 at *
    generalize w3.heap.size = b11 at *
    obtain ⟨p0, p1, p2, p3⟩ := cells4 B3.out
    obtain ⟨q0, q1, q2, q3, q4⟩ := cells5 C3.out
    have c3 := cell_regrown p3
    have d0 := cell_regrown q0
    have d1 := cell_regrown q1
    have d2 := cell_regrown q2
    have d3 := cell_regrown q3
    have d4 := cell_regrown q4
    have CB : Hid (∀ d os, Calls Tryz.prog 56 #[.agg #[.int .i64 xa, .int .u8 xt, .int .i64 xy, .int .i64 xl, .int .i64 xz]] (grow (redrawn y3 d) os) fun e z => e = .returned (.int .i64 (xa + xz)) ∧ ∃ p : Regrown, z = grow (redrawn y3 p.d) p.os) :=
      Lib.hid fun d os => Calls.regrown_of ((HBh.out _).mono fun _ _ ⟨he, hk⟩ => ⟨he, hk.below (Nat.le_refl _) (by simp)⟩)
    clear p0 p1 p2 p3 q0 q1 q2 q3 q4
    refine wp_region_quiet_below (by kernel_rfl) (by kernel_rfl) ?_
    repeat (first | go_big_quiet_step (exact CB.out _ _) | quiet_step (exact CB.out _ _))
    refine wpQuiet_nil ?_
    rintro _ ⟨⟨dq, osq⟩, rfl⟩
    have hk4 := Kept.ofBelow (below_regrown y3 dq osq) []
    clear c3 d0 d1 d2 d3 d4 CB hb1
    generalize grow (redrawn y3 dq) osq = y4 at hk4 ⊢
    have K4 := Lib.hid (K3.out.trans hk4)
    clear hk4 K3 B3 C3
    go_wp2_with fail
    go_ret
    exact ⟨rfl, K4.out⟩
  · have hb1 : (xt != 1) = true := by rw [bne_iff_ne]; exact ht
    have hwr : IntKind.i64.wrap (xa + xz - g) = xa + xz - g := by rw [IntKind.wrap_i64]; omega
    have hlt : decide (xa + xz - g < sz) = true := decide_eq_true (by omega)
    clear hx ht
    go_enter Tryz.func27, Tryz.ntmps27
    go_wp2_with fail
    refine HO.out.mono ?_
    rintro e w1 ⟨rfl, hk⟩
    have K1 := Lib.hid (hk.alloc (.cells #[.int .u8 1, .int .i64 i, .int .i64 n, .int .i64 sz] 35))
    have B1 := Lib.hid (HN.out w1)
    clear hk HO HN c0 c1 c2
    go_wp2_with fail
    generalize w1.alloc (.cells #[.int .u8 1, .int .i64 i, .int .i64 n, .int .i64 sz] 35) = y1 at *
    generalize w1.heap.size = b9 at *
    refine (HGr.out _ K1.out).mono ?_
    rintro e w2 ⟨rfl, rfl⟩
    go_wp2_with fail
    refine (HGp.out _ K1.out).mono ?_
    rintro e w3 ⟨rfl, hk⟩
    have K3 := Lib.hid ((K1.out.trans hk).alloc (.cells #[.int .i64 xa, .int .u8 xt, .int .i64 xy, .int .i64 xl, .int .i64 xz] 37))
    have B3 := Lib.hid ((B1.out.keep0 hk).alloc (.cells #[.int .i64 xa, .int .u8 xt, .int .i64 xy, .int .i64 xl, .int .i64 xz] 37))
    have C3 := Lib.hid (HNc.out w3)
    clear hk HGp HGr HNc B1 K1
    go_wp2_with fail
    generalize w3.alloc (.cells #[.int .i64 xa, .int .u8 xt, .int .i64 xy, .int .i64 xl, .int .i64 xz] 37) = y3 at *
    generalize w3.heap.size = b11 at *
    obtain ⟨p0, p1, p2, p3⟩ := cells4 B3.out
    obtain ⟨q0, q1, q2, q3, q4⟩ := cells5 C3.out
    have c3 := cell_regrown p3
    have d0 := cell_regrown q0
    have d1 := cell_regrown q1
    have d2 := cell_regrown q2
    have d3 := cell_regrown q3
    have d4 := cell_regrown q4
    have CB : Hid (∀ d os, Calls Tryz.prog 56 #[.agg #[.int .i64 xa, .int .u8 xt, .int .i64 xy, .int .i64 xl, .int .i64 xz]] (grow (redrawn y3 d) os) fun e z => e = .returned (.int .i64 (xa + xz)) ∧ ∃ p : Regrown, z = grow (redrawn y3 p.d) p.os) :=
      Lib.hid fun d os => Calls.regrown_of ((HBh.out _).mono fun _ _ ⟨he, hk⟩ => ⟨he, hk.below (Nat.le_refl _) (by simp)⟩)
    clear p0 p1 p2 p3 q0 q1 q2 q3 q4
    refine wp_region_quiet_below (by kernel_rfl) (by kernel_rfl) ?_
    repeat (first | go_big_quiet_step (exact CB.out _ _) | quiet_step (exact CB.out _ _))
    refine wpQuiet_nil ?_
    rintro _ ⟨⟨dq, osq⟩, rfl⟩
    have hk4 := Kept.ofBelow (below_regrown y3 dq osq) []
    clear c3 d0 d1 d2 d3 d4 CB hb1 hwr hlt
    generalize grow (redrawn y3 dq) osq = y4 at hk4 ⊢
    have K4 := Lib.hid (K3.out.trans hk4)
    clear hk4 K3 B3 C3
    go_wp2_with fail
    go_ret
    exact ⟨rfl, K4.out⟩
end
end Go.Proofs.YtdfnphgjjodfoaaGreatDoor.Sp

/-
  The contract of the document's Make where there is room: the words lie in a block of their own.
-/
namespace Go.Proofs.YtdfnphgjjodfoaaGreatDoor.Sp
open Go.RowKit Go.Proofs.YtdfnphgjjodfoaaGreatDoor.Ar Go.Proofs.YtdfnphgjjodfoaaGreatDoor.Sh
open Go.Proofs.YtdfnphgjjodfoaaGreatDoor.Hd (Hd Fields encW errH ofL dof_row dencode_ok cells4 free4 of_facts can_obj errH_yes)
open Go.Proofs.YtdfnphgjjodfoaaGreatDoor.Tb (Ty sizeE sizeT)
set_option linter.unusedVariables false
section
variable {w : World}
set_option maxRecDepth 100000 in
set_option maxHeartbeats 4000000 in
theorem dmake_yes {A B : Option Addr} {c d : Nat} {ws : List Int} {l : List Ty} (hn : A = none → c = 0) (hS : Ar.Seen w A ws) (hlc : ws.length ≤ c) (hl : ws.length ≤ 65536) (hL : Tb.Seen w B l) (hok : ∀ x ∈ l, x.ok ∧ x.fit) (hlen : l.length ≤ 64) (g i n : Int) (i0 : -9223372036854775808 ≤ i) (i1 : i ≤ 9223372036854775807)
    (he : sizeE l i n = 0) (g0 : 0 ≤ g) (hroomy : (ofL l i n).sz ≤ (ws.length : Int) / 2 - g) :
    Calls Tryz.prog 100 #[.slice A ws.length c, .slice B l.length d, .int .i64 g, .int .i64 i, .int .i64 n] w fun e w' => ∃ gb cap, e = .returned (.tuple #[.slice (some ⟨gb, 0, none⟩) ws.length cap, .int .i64 0]) ∧ Sh.Lay w' gb (makeW ws l g i n) ∧ ws.length ≤ cap ∧ w.heap.size ≤ gb ∧ Kept [] w w' := by
  have HO := Lib.hid (fun y (k : Kept [] w y) => dof_row (c := d) (hL.keep0 k) hok (by omega) i n i0 i1)
  have ed : (ws.length : Int).tdiv 2 = (ws.length : Int) / 2 := Int.tdiv_eq_ediv_of_nonneg (by omega)
  obtain ⟨sz, ho, s1, s2, i2, i3, n1, n2⟩ := of_facts he hlen
  have hcan : (Hd.Hd.mk 1 i n sz).can := can_obj (by omega) (by omega) (by omega) (by omega) (by omega) (by omega)
  have okH : (Hd.Hd.mk 1 i n sz).ok := by constructor <;> simp <;> omega
  have HN : Hid (∀ y : World, Has (y.alloc (.cells #[.int .u8 1, .int .i64 i, .int .i64 n, .int .i64 sz] 35)) y.heap.size 35 [.int .u8 1, .int .i64 i, .int .i64 n, .int .i64 sz]) := Lib.hid fun y => Has.new y _ _
  rw [he, ho] at HO
  rw [ho] at hroomy
  have hc : inG ws.length g sz = true := (inG_iff _ _ _).2 ⟨g0, hroomy⟩
  have hE : makeE ws.length l g i n = if inG ws.length g sz then 0 else 2 := by unfold makeE; rw [if_neg (by simpa using he), ho]
  have hM : makeW ws l g i n = if (if inG ws.length g sz then (0 : Int) else 2) = 0 then layG ws g (encW ⟨1, i, n, sz⟩) sz else ws := by unfold makeW; rw [hE, ho]
  rw [hM]
  rw [hc]
  clear hE hM hroomy g0
  unfold Hd.val at HO
  simp only at HO
  obtain ⟨j0, j1⟩ := (inG_iff _ _ _).1 hc
  have HEn := Lib.hid (fun (y : World) => dencode_ok (w := y) ⟨1, i, n, sz⟩ okH)
  rw [errH_yes hcan] at HEn
  obtain ⟨m, rfl⟩ := Int.eq_ofNat_of_zero_le j0
  obtain ⟨z, rfl⟩ := Int.eq_ofNat_of_zero_le (show 0 ≤ sz by omega)
  generalize hu : encW ⟨1, i, n, (z : Int)⟩ = u at *
  simp only [if_true]
  have hne : ws ≠ [] := by
    rintro rfl
    simp at j1
    omega
  have hroom : 2 * m + 2 * z ≤ ws.length := by omega
  have hlay : Hid (layG ws (m : Int) u (z : Int) = (putW ws (2 * m) (List.replicate (2 * z) 0)).set (2 * m) u) := Lib.hid (by
    unfold layG
    obtain ⟨k, hk⟩ : ∃ k, 2 * z = k + 1 := ⟨2 * z - 1, by omega⟩
    rw [hk, lay_head _ _ _ _ (by omega), show (2 * (m : Int)).toNat = 2 * m by omega, show (2 * (z : Int) - 1).toNat = k by omega])
  have hll : Hid ((layG ws (m : Int) u (z : Int)).length = ws.length) := Lib.hid (by rw [hlay.out, List.length_set, putW_length _ _ _ (by rw [List.length_replicate]; omega)])
  have hstep : Hid (∀ j, j < 2 * z → (putW ws (2 * m) (List.replicate j 0)).set (2 * m + j) 0 = putW ws (2 * m) (List.replicate (j + 1) 0)) := Lib.hid fun j hj => replicate_step ws (2 * m) j 0 (by omega)
  have hpl : Hid (∀ j, j ≤ 2 * z → (putW ws (2 * m) (List.replicate j 0)).length = ws.length) := Lib.hid fun j hj => putW_length _ _ _ (by rw [List.length_replicate]; omega)
  have hp0 : Hid (putW ws (2 * m) (List.replicate 0 0) = ws) := Lib.hid (putW_none ws (2 * m))
  have HS := Lib.hid hS
  have HNn := Lib.hid hn
  have HNe := Lib.hid hne
  clear hS hL ho okH hcan he hc hn hne
  obtain ⟨L, hLL⟩ : ∃ L, L = ws.length := ⟨_, rfl⟩
  rw [← hLL] at hlc hl ed j1 hroom hpl hll ⊢
  have HLL := Lib.hid hLL
  clear hLL
  unfold Hd.val at HEn
  simp only at HEn
  go_enter Tryz.func100, Tryz.ntmps100
  go_wp2_with fail
  refine (HO.out _ (Kept.refl [] w)).mono ?_
  rintro e x1 ⟨rfl, k1⟩
  have K1 := Lib.hid (k1.alloc (.cells #[.int .u8 1, .int .i64 i, .int .i64 n, .int .i64 (z : Int)] 35))
  have b1 := HN.out x1
  obtain ⟨c0, c1, c2, c3⟩ := cells4 b1
  have HB1 := Lib.hid b1
  have Hge := Lib.hid k1.more
  clear k1 b1 HO HN
  have HS1 := Lib.hid (HS.out.keep0 K1.out)
  generalize hy1 : x1.alloc (.cells #[.int .u8 1, .int .i64 i, .int .i64 n, .int .i64 (z : Int)] 35) = y1 at *
  generalize hhb : x1.heap.size = hb at *
  go_wp2_with (at_builtin; (refine append_words rfl (.const (.slice none 0 0)) (.tmp 47) rfl (.slice none 0 0) [] rfl (Ar.Own.nil _) A L c ws rfl HLL.out.symm HNn.out HS1.out (show 0 + L ≤ 1073741824 by omega) ?_))
  intro v2 x2 hO2 hG2 hB2
  have hK2 : Kept [] y1 x2 := own_grown (Kept.refl [] y1) (.inl rfl) hG2
  have hF2 := own_fresh (Kept.refl [] y1) (.inl rfl) hB2
  obtain ⟨gb, cap, rfl, hcap, hlay2⟩ := lay_of_own hO2 HNe.out
  have hgb : y1.heap.size ≤ gb := by
    rcases hF2 with h | ⟨b, h, hle⟩
    · cases h
    · injection h with h
      rw [show gb = b from h]; exact hle
  rw [← HLL.out] at hcap ⊢
  have b2 := HB1.out.keep0 hK2
  have hbg : hb ≠ gb := by have := HB1.out.lt; omega
  have HB2 := Lib.hid b2
  have HK2 := Lib.hid hK2
  have HLy2 := Lib.hid hlay2
  have Hgb := Lib.hid hgb
  have Hbg := Lib.hid hbg
  clear hO2 hG2 hB2 hK2 hF2 hlay2 b2 hgb HS1 HB1 c0 c1 c2 c3 hbg
  go_wp2_with fail
  go_loopw [15] (fun t wr => ∃ j : Nat, j ≤ 2 * z ∧ t = .int .i64 ((2 * m + j : Nat) : Int) ∧ Hid (Sh.Lay wr gb (putW ws (2 * m) (List.replicate j 0)) ∧ Kept [gb] x2 wr)) (fun t _ => 2 * m + 2 * z - (intOf t).toNat)
  case atStart => exact ⟨0, Nat.zero_le _, by simp, Lib.hid ⟨by rw [hp0.out]; exact HLy2.out, Kept.refl _ _⟩⟩
  case round =>
    obtain ⟨j, hj, rfl, hr⟩ := hrel
    obtain ⟨c0, c1, c2, c3⟩ := cells4 (HB2.out.kept hr.out.2 (by simpa using Hbg.out))
    by_cases hlt : j < 2 * z
    · have hc := hr.out.1.cell (2 * m + j) (by rw [hpl.out j hj]; omega)
      have hf := hr.out.1.free (2 * m + j)
      have hidx : 2 * m + j < L := by omega
      have hHN : Hid (Sh.Lay (wr.setCell ⟨gb, 2 * m + j, none⟩ (.int .u64 0)) gb (putW ws (2 * m) (List.replicate (j + 1) 0)) ∧ Kept [gb] x2 (wr.setCell ⟨gb, 2 * m + j, none⟩ (.int .u64 0))) := Lib.hid (by
        refine ⟨?_, hr.out.2.setCell _ _ (.inl (by simp))⟩
        rw [← hstep.out j hlt]
        exact hr.out.1.put _ _ (by rw [hpl.out j hj]; omega))
      clear hr
      go_wp2_with fail
      go_roundw
      case rel => exact ⟨j + 1, by omega, by go_num, hHN⟩
      case measure => simp [intOf]; omega
    · obtain rfl : j = 2 * z := by omega
      have hlay3 := hr.out.1
      have hk3 := hr.out.2
      have HL3 := Lib.hid hlay3
      have HK3 := Lib.hid hk3
      clear hr hlay3 hk3
      go_wp2_with fail
      refine (HEn.out _).mono ?_
      rintro e x4 ⟨rfl, k4⟩
      have hL4 := HL3.out.keep0 k4
      have hK4 := HK3.out.trans (k4.none _)
      have hc := hL4.cell (2 * m) (by rw [hpl.out _ (Nat.le_refl _)]; omega)
      have hf := hL4.free (2 * m)
      have hidx : 2 * m < L := by omega
      have hFin : Hid (Sh.Lay (x4.setCell ⟨gb, 2 * m, none⟩ (.int .u64 u)) gb (layG ws (m : Int) u (z : Int)) ∧ Kept [] w (x4.setCell ⟨gb, 2 * m, none⟩ (.int .u64 u))) := Lib.hid (by
        have k5 := hK4.setCell ⟨gb, 2 * m, none⟩ (.int .u64 u) (.inl (by simp))
        refine ⟨?_, ?_⟩
        · rw [hlay.out]
          exact hL4.put _ _ (by rw [hpl.out _ (Nat.le_refl _)]; omega)
        · refine (K1.out.trans HK2.out).forget k5 fun b hb => ?_
          obtain rfl := List.mem_singleton.1 hb
          have := K1.out.more
          have := Hgb.out
          omega)
      have hEnd := Lib.hid (And.intro hFin.out.1 (And.intro hcap (And.intro (Nat.le_trans K1.out.more Hgb.out) hFin.out.2)))
      clear hL4 hK4 k4 HL3 HK3
      go_wp2_with fail
      go_ret2
      exact ⟨gb, cap, rfl, hEnd.out⟩
end
end Go.Proofs.YtdfnphgjjodfoaaGreatDoor.Sp
