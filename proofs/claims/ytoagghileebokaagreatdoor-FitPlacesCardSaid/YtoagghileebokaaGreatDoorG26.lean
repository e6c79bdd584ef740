/-
  Several texts in one: ShDocMake, SpDocOps, SpDocCells, SpDocDrop.
-/
import Derived.Test.YtoagghileebokaaGreatDoorG15
import Derived.Test.YtoagghileebokaaGreatDoorG05
import Derived.Test.YtoagghileebokaaGreatDoorG21
import Derived.Test.YtoagghileebokaaGreatDoorG25
import Derived.Test.YtoagghileebokaaGreatDoorG10
import Derived.Deep.RegionHeld3
import Derived.Test.YtoagghileebokaaGreatDoorG23
import Derived.Deep.DeepCutAuto
/-
  The contract of the document's Make.
-/
namespace Go.Proofs.YtoagghileebokaaGreatDoor.Sh
open Go.RowKit Go.Proofs.YtoagghileebokaaGreatDoor.Ar
open Go.Proofs.YtoagghileebokaaGreatDoor.Hd (Hd Fields encW errH ofL dof_row dencode_ok cells4 free4 of_facts can_obj errH_yes)
open Go.Proofs.YtoagghileebokaaGreatDoor.Tb (Ty sizeE sizeT)
set_option linter.unusedVariables false

/-- The block g begins with these words. -/
def Lay (w : World) (g : Nat) (l : List Int) : Prop := ∃ rest, Has w g 55 (ints l ++ rest)
theorem Lay.keep0 {w w' : World} {g : Nat} {l : List Int} (h : Lay w g l) (k : Kept [] w w') : Lay w' g l := by
  obtain ⟨r, h⟩ := h
  exact ⟨r, h.keep0 k⟩
theorem Lay.seen {w : World} {g : Nat} {l : List Int} (h : Lay w g l) : Seen w (some ⟨g, 0, none⟩) l := by
  obtain ⟨r, h⟩ := h
  refine fun _ => ⟨g, 0, rfl, h.lt, fun j v hv => ?_⟩
  rw [Nat.zero_add, h.cell]
  rw [List.getElem?_append_left]
  · exact hv
  · rw [List.getElem?_eq_some_iff] at hv
    exact hv.1
theorem Lay.cell {w : World} {g : Nat} {l : List Int} (h : Lay w g l) (j : Nat) (hj : j < l.length) : w.cell? ⟨g, j, none⟩ = some (.int .u64 (l.getD j 0)) := by
  obtain ⟨r, h⟩ := h
  rw [h.cell, List.getElem?_append_left (by rw [ints_length]; exact hj)]
  exact ints_get l j hj
theorem Lay.free {w : World} {g : Nat} {l : List Int} (h : Lay w g l) (j : Nat) : w.frozen? ⟨g, j, none⟩ = false := by
  obtain ⟨r, h⟩ := h
  exact h.free j
theorem Lay.put {w : World} {g : Nat} {l : List Int} (h : Lay w g l) (j : Nat) (u : Int) (hj : j < l.length) : Lay (w.setCell ⟨g, j, none⟩ (.int .u64 u)) g (l.set j u) := by
  obtain ⟨r, h⟩ := h
  have := h.put j (.int .u64 u)
  rw [List.set_append_left _ _ (by rw [ints_length]; exact hj), ints_set] at this
  exact ⟨r, this⟩
theorem Lay.lt {w : World} {g : Nat} {l : List Int} (h : Lay w g l) : g < w.heap.size := by
  obtain ⟨r, h⟩ := h
  exact h.lt
theorem lay_of_own {w : World} {v : Value} {l : List Int} (h : Ar.Own w v l) (hl : l ≠ []) : ∃ g cap, v = .slice (some ⟨g, 0, none⟩) l.length cap ∧ l.length ≤ cap ∧ Lay w g l := by
  rcases h.2 with ⟨_, h0⟩ | ⟨g, cap, cur, rfl, _, hg, hc, hm, _, ht⟩
  · exact absurd (List.eq_nil_of_length_eq_zero h0) hl
  · refine ⟨g, cap, rfl, hc, cur.toList.drop (l.length * 1), ?_⟩
    rw [← ht, List.take_append_drop]
    unfold Has
    simpa using hg
theorem lay_head (ws : List Int) (i k : Nat) (u : Int) (h : i + (k + 1) ≤ ws.length) : (putW ws i (List.replicate (k + 1) 0)).set i u = putW ws i (u :: List.replicate k 0) := by
  unfold putW
  rw [List.set_append_right _ _ (by rw [List.length_take]; omega), List.length_take, Nat.min_eq_left (by omega), Nat.sub_self, List.replicate_succ, List.cons_append, List.set_cons_zero]
  simp
theorem putW_none (ws : List Int) (i : Nat) : putW ws i [] = ws := by unfold putW; simp
section
variable {w : World}
end
end Go.Proofs.YtoagghileebokaaGreatDoor.Sh

/-
  The document's space in memory; the contracts of its gap and lay.
-/
namespace Go.Proofs.YtoagghileebokaaGreatDoor.Sp
open Go.RowKit Go.Proofs.YtoagghileebokaaGreatDoor.Ar Go.Proofs.YtoagghileebokaaGreatDoor.Sh
open Go.Proofs.YtoagghileebokaaGreatDoor.Hd (Hd Fields encW gapH errH dgap_ok dencode_ok cells4 free4)
open Go.Proofs.YtoagghileebokaaGreatDoor.Tb (Ty)
set_option linter.unusedVariables false

theorem lay_kept {S : List Nat} {w w' : World} {g : Nat} {l : List Int} (h : Sh.Lay w g l) (k : Kept S w w') (hg : g ∉ S) : Sh.Lay w' g l := by
  obtain ⟨r, h⟩ := h
  exact ⟨r, h.kept k hg⟩
/-- The document's space: its block, the block of its words. -/
structure DSp (x : World) (r q cap : Nat) (B : Option Addr) (d : Nat) (l : List Ty) (ws : List Int) : Prop where
  head : Has x r 146 [.slice (some ⟨q, 0, none⟩) ws.length cap, .slice B l.length d]
  row : Sh.Lay x q ws
  cap : ws.length ≤ cap
theorem DSp.kept {S : List Nat} {x y : World} {r q cap : Nat} {B : Option Addr} {d : Nat} {l : List Ty} {ws : List Int} (h : DSp x r q cap B d l ws) (k : Kept S x y) (hr : r ∉ S) (hq : q ∉ S) : DSp y r q cap B d l ws := ⟨h.head.kept k hr, lay_kept h.row k hq, h.cap⟩
theorem DSp.keep0 {x y : World} {r q cap : Nat} {B : Option Addr} {d : Nat} {l : List Ty} {ws : List Int} (h : DSp x r q cap B d l ws) (k : Kept [] x y) : DSp y r q cap B d l ws := h.kept k (by simp) (by simp)
theorem DSp.cells {x : World} {r q cap : Nat} {B : Option Addr} {d : Nat} {l : List Ty} {ws : List Int} (h : DSp x r q cap B d l ws) : x.cell? ⟨r, 0, none⟩ = some (.slice (some ⟨q, 0, none⟩) ws.length cap) ∧ x.cell? ⟨r, 1, none⟩ = some (.slice B l.length d) ∧ x.frozen? ⟨r, 0, none⟩ = false :=
  ⟨h.head.cell 0, h.head.cell 1, h.head.free 0⟩
theorem setG_set (ws : List Int) (m : Nat) (u : Int) (h : 2 * m < ws.length) : setG ws (m : Int) u = ws.set (2 * m) u := by
  have hw : Ar.within ws.length (2 * (m : Int)) 1 = true := (Ar.within_iff _ _ _).2 ⟨by omega, by omega, by omega⟩
  unfold setG fillW
  rw [if_pos hw, show List.replicate (1 : Int).toNat u = [u] from rfl, show (2 * (m : Int)).toNat = 2 * m by omega]
  exact putW_set _ _ _ h
section
variable {w : World}
set_option maxRecDepth 100000 in
set_option maxHeartbeats 1000000 in
theorem sgap_ok (z : Int) (z0 : -9223372036854775808 ≤ z) (z1 : z ≤ 9223372036854775807) :
    Calls Tryz.prog 136 #[.int .i64 z] w fun e w' => e = .returned (.int .u64 (gapW z)) ∧ Kept [] w w' := by
  have HG := Lib.hid (fun g (g0 : 0 ≤ g) (g1 : g ≤ 255) => dgap_ok (w := w) g z g0 g1 z0 z1)
  have HE := Lib.hid (fun y (x : Hd) (ok : x.ok) => dencode_ok (w := y) x ok)
  have HOK : Hid (∀ g : Int, 0 ≤ g → g ≤ 255 → (gapH g z).ok) := Lib.hid fun g g0 g1 => by
    unfold gapH
    split
    · constructor <;> simp <;> omega
    · exact Hd.zero_ok
  unfold gapW
  by_cases e1 : z = 1
  · rw [if_pos e1]
    have hok := Lib.hid (HOK.out 2 (by omega) (by omega))
    have hg := Lib.hid (HG.out 2 (by omega) (by omega))
    have he1 : (z == 1) = true := by simpa using e1
    clear HOK HG e1
    generalize errH ⟨2, 0, 0, z⟩ = er at *
    generalize gapH 2 z = x at *
    have HX := Lib.hid (fun y => HE.out y x hok.out)
    clear HE
    generalize encW x = u at *
    generalize errH x = er2 at *
    unfold Hd.val at *
    generalize x.tg = xg at *
    generalize x.ty = xt at *
    generalize x.ln = xn at *
    generalize x.sz = xs at *
    go_enter Tryz.func136, Tryz.ntmps136
    go_wp2_with fail
    refine hg.out.mono ?_
    rintro e w1 ⟨rfl, hk⟩
    have hb := Has.new w1 49 [.int .u8 xg, .int .i64 xt, .int .i64 xn, .int .i64 xs]
    obtain ⟨c0, c1, c2, c3⟩ := cells4 hb
    have HK := Lib.hid (hk.alloc (.cells #[.int .u8 xg, .int .i64 xt, .int .i64 xn, .int .i64 xs] 49))
    clear hb hk hg
    go_wp2_with fail
    refine (HX.out _).mono ?_
    rintro e w2 ⟨rfl, hk⟩
    go_wp2_with fail
    go_ret
    exact ⟨rfl, HK.out.trans hk⟩
  · rw [if_neg e1]
    have hok := Lib.hid (HOK.out 3 (by omega) (by omega))
    have hg := Lib.hid (HG.out 3 (by omega) (by omega))
    have he1 : (z == 1) = false := by simpa using e1
    clear HOK HG e1
    generalize errH ⟨3, 0, 0, z⟩ = er at *
    generalize gapH 3 z = x at *
    have HX := Lib.hid (fun y => HE.out y x hok.out)
    clear HE
    generalize encW x = u at *
    generalize errH x = er2 at *
    unfold Hd.val at *
    generalize x.tg = xg at *
    generalize x.ty = xt at *
    generalize x.ln = xn at *
    generalize x.sz = xs at *
    go_enter Tryz.func136, Tryz.ntmps136
    go_wp2_with fail
    refine hg.out.mono ?_
    rintro e w1 ⟨rfl, hk⟩
    have hb := Has.new w1 49 [.int .u8 xg, .int .i64 xt, .int .i64 xn, .int .i64 xs]
    obtain ⟨c0, c1, c2, c3⟩ := cells4 hb
    have HK := Lib.hid (hk.alloc (.cells #[.int .u8 xg, .int .i64 xt, .int .i64 xn, .int .i64 xs] 49))
    clear hb hk hg
    go_wp2_with fail
    refine (HX.out _).mono ?_
    rintro e w2 ⟨rfl, hk⟩
    go_wp2_with fail
    go_ret
    exact ⟨rfl, HK.out.trans hk⟩
end
/-- What a method of the document's space leaves: its words, and which blocks have turned. -/
def Doc (x y : World) (r q : Nat) (B : Option Addr) (d : Nat) (l : List Ty) (ws : List Int) : Prop := ∃ q' cap', DSp y r q' cap' B d l ws ∧ (q' = q ∨ x.heap.size ≤ q') ∧ Kept [r] x y
theorem Doc.same {x y : World} {r q cap : Nat} {B : Option Addr} {d : Nat} {l : List Ty} {ws : List Int} (h : DSp x r q cap B d l ws) (k : Kept [] x y) : Doc x y r q B d l ws := ⟨q, cap, h.keep0 k, .inl rfl, k.none _⟩
section
variable {x : World} {r q cap : Nat} {B : Option Addr} {d : Nat} {l : List Ty} {ws : List Int}
set_option maxRecDepth 100000 in
set_option maxHeartbeats 1000000 in
theorem lay_no (g n : Int) (hn : n < 1) : Calls Tryz.prog 105 #[.pointer (some ⟨r, 0, none⟩), .int .i64 g, .int .i64 n] x fun e y => (∃ v, e = .returned v) ∧ x = y := by
  go_enter Tryz.func105, Tryz.ntmps105
  go_wp2_with fail
  first | go_end0 | refine bodyPost_ret (results_none rfl _ _ _) rfl ?_
  exact ⟨⟨_, rfl⟩, rfl⟩
set_option maxRecDepth 100000 in
set_option maxHeartbeats 1000000 in
theorem lay_yes (h : DSp x r q cap B d l ws) (hl : ws.length ≤ 65536) (m : Nat) (n : Int) (hm : 2 * m < ws.length) (n0 : 1 ≤ n) (n1 : n ≤ 9223372036854775807) :
    Calls Tryz.prog 105 #[.pointer (some ⟨r, 0, none⟩), .int .i64 (m : Int), .int .i64 n] x fun e y => (∃ v, e = .returned v) ∧ Doc x y r q B d l (setG ws (m : Int) (gapW n)) := by
  obtain ⟨c0, c1, f0⟩ := h.cells
  have hne : ws ≠ [] := by rintro rfl; simp at hm
  have HS := Lib.hid h.row.seen
  have HH := Lib.hid h
  have HG := Lib.hid (fun y => sgap_ok (w := y) n (by omega) n1)
  have hset := Lib.hid (setG_set ws m (gapW n) hm)
  have hlen := Lib.hid (setG_length ws (m : Int) (gapW n))
  have HNe := Lib.hid hne
  have Hcap := Lib.hid h.cap
  clear h hne
  generalize gapW n = u at *
  obtain ⟨L, hLL⟩ : ∃ L, L = ws.length := ⟨_, rfl⟩
  rw [← hLL] at hl hm hlen Hcap c0
  have HLL := Lib.hid hLL
  clear hLL
  go_enter Tryz.func105, Tryz.ntmps105
  go_wp2_with (at_builtin; (refine append_words rfl (.const (.slice none 0 0)) (.tmp 12) rfl (.slice none 0 0) [] rfl (Ar.Own.nil _) (some ⟨q, 0, none⟩) L cap ws rfl HLL.out.symm (fun h => by cases h) HS.out (show 0 + L ≤ 1073741824 by omega) ?_))
  intro v2 x2 hO2 hG2 hB2
  have hK2 : Kept [] x x2 := own_grown (Kept.refl [] x) (.inl rfl) hG2
  have hF2 := own_fresh (Kept.refl [] x) (.inl rfl) hB2
  obtain ⟨gb, cap2, rfl, hcap, hlay2⟩ := lay_of_own hO2 HNe.out
  have hgb : x.heap.size ≤ gb := by
    rcases hF2 with h | ⟨b, h, hle⟩
    · cases h
    · injection h with h
      rw [show gb = b from h]; exact hle
  rw [← HLL.out] at hcap ⊢
  have HK2 := Lib.hid hK2
  have HLy2 := Lib.hid hlay2
  have Hgb := Lib.hid hgb
  have HCp := Lib.hid hcap
  clear hO2 hG2 hB2 hK2 hF2 hlay2 hgb HS c0 c1 f0 hcap
  go_wp2_with fail
  refine (HG.out _).mono ?_
  rintro e x3 ⟨rfl, k3⟩
  have hL3 := HLy2.out.keep0 k3
  have hK3 := HK2.out.trans k3
  have hD3 := HH.out.keep0 hK3
  have hc := hL3.cell (2 * m) (by rw [← HLL.out]; omega)
  have hf := hL3.free (2 * m)
  have hrq : r ≠ gb := by have := HH.out.head.lt; have := Hgb.out; omega
  obtain ⟨c0, c1, f0⟩ := hD3.cells
  have HFin : Hid (Doc x ((x3.setCell ⟨gb, 2 * m, none⟩ (.int .u64 u)).setCell ⟨r, 0, none⟩ (.slice (some ⟨gb, 0, none⟩) L cap2)) r q B d l (setG ws (m : Int) u)) := Lib.hid (by
    refine ⟨gb, cap2, ⟨?_, ?_, ?_⟩, .inr Hgb.out, ?_⟩
    · rw [hlen.out]
      exact (hD3.head.beside _ hrq _).put 0 _
    · rw [hset.out]
      obtain ⟨rest, hr⟩ := hL3.put (2 * m) u (by rw [← HLL.out]; omega)
      exact ⟨rest, hr.beside _ (Ne.symm hrq) _⟩
    · rw [hlen.out]; exact HCp.out
    · exact ((hK3.none _).setCell _ _ (.inr Hgb.out)).setCell _ _ (.inl (by simp)))
  have hidx : 2 * m < L := by omega
  have hD4 := hD3.head.beside ⟨gb, 2 * m, none⟩ hrq (.int .u64 u)
  have c0' := hD4.cell 0
  have f0' := hD4.free 0
  clear hL3 hK3 hD3 k3 HLy2 HK2 HG HH hD4
  go_wp2_with fail
  first | go_end0 | refine bodyPost_ret (results_none rfl _ _ _) rfl ?_
  exact ⟨⟨_, rfl⟩, HFin.out⟩
theorem lay_ok (h : DSp x r q cap B d l ws) (hl : ws.length ≤ 65536) (g n : Int) (g0 : 0 ≤ g) (hn : 1 ≤ n → g + n ≤ gran ws) (n1 : n ≤ 9223372036854775807) :
    Calls Tryz.prog 105 #[.pointer (some ⟨r, 0, none⟩), .int .i64 g, .int .i64 n] x fun e y => (∃ v, e = .returned v) ∧ Doc x y r q B d l (gapS ws g (g + n)) := by
  by_cases hc : n < 1
  · refine (lay_no g n hc).mono ?_
    rintro e y ⟨he, rfl⟩
    refine ⟨he, ?_⟩
    unfold gapS
    rw [if_neg (by omega)]
    exact Doc.same h (Kept.refl _ _)
  · obtain ⟨m, rfl⟩ := Int.eq_ofNat_of_zero_le g0
    have hb := hn (by omega)
    unfold gran at hb
    refine (lay_yes h hl m n (by omega) (by omega) n1).mono ?_
    rintro e y ⟨he, hd⟩
    refine ⟨he, ?_⟩
    unfold gapS
    rw [if_pos (by omega), show (m : Int) + n - m = n by omega]
    exact hd
end
end Go.Proofs.YtoagghileebokaaGreatDoor.Sp

/-
  The contracts of the document's Cells (layers 9 and 10) and of All, of words that cells fill.
-/
namespace Go.Proofs.YtoagghileebokaaGreatDoor.Sp
open Go.RowKit Go.Proofs.YtoagghileebokaaGreatDoor.Ar Go.Proofs.YtoagghileebokaaGreatDoor.Sh
open Go.Proofs.YtoagghileebokaaGreatDoor.Hd (Hd Fields encW gapH errH dgap_ok dencode_ok cells4 free4 dfits_row fitL)
open Go.Proofs.YtoagghileebokaaGreatDoor.Tb (Ty)
set_option linter.unusedVariables false

set_option maxRecDepth 100000 in
set_option maxHeartbeats 4000000 in
theorem dcells_ok {w : World} {A B : Option Addr} {c d : Nat} {ws : List Int} {l : List Ty} (hS : Ar.Seen w A ws) (hl : ws.length ≤ 65536) (hW : Wds ws) (hL : Tb.Seen w B l) (hok : ∀ x ∈ l, x.ok ∧ x.fit) (hlen : l.length ≤ 100000) (cs : List Cel) (hT : Tiled ws l 0 cs (gran ws)) :
    Calls Tryz.prog 138 #[.slice A ws.length c, .slice B l.length d] w fun e w' => ∃ v, e = .returned (.tuple #[v, .bool true]) ∧ Own w' v cs ∧ FreshV w v ∧ Kept [] w w' := by
  have HH := Lib.hid (fun y (k : Kept [] w y) (g : Int) => dhead_any (c := c) (hS.keep0 k) (by omega) hW g)
  have HFt := Lib.hid (fun y (k : Kept [] w y) (x : Hd) (ok : x.ok) => dfits_row (c := d) (hL.keep0 k) hok hlen x ok)
  have HOk := Lib.hid (fun g => hdH_ok (g := g) hW)
  have hgr : 0 ≤ gran ws ∧ gran ws ≤ 32768 := by unfold gran; omega
  have HC := Lib.hid (fun a rest (a0 : 0 ≤ a) (h : Tiled ws l a rest (gran ws)) => Tiled.cell h a0 (show gran ws ≤ (ws.length : Int) / 2 from Int.le_refl _))
  have hcl : cs.length ≤ 32768 := by
    rcases (hT.scans (Int.le_refl _)).length (Int.le_refl _) with h | h
    · unfold gran at hgr; omega
    · subst h; simp
  have ed : (ws.length : Int).tdiv 2 = gran ws := Int.tdiv_eq_ediv_of_nonneg (by omega)
  have H0 : Hid ([] ++ cs = cs ∧ Tiled ws l 0 cs (gran ws) ∧ Own w (.slice none 0 0) [] ∧ FreshV w (.slice none 0 0) ∧ Kept [] w w) := Lib.hid ⟨rfl, hT, Own.nil _, .inl rfl, Kept.refl _ _⟩
  clear hS hL hW hok hT
  generalize ws.length = L at *
  generalize gran ws = G at *
  go_enter Tryz.func138, Tryz.ntmps138
  go_wp2_with fail
  go_loopw [6, 7] (fun v t wr => ∃ (pre rest : List Cel) (a : Int), t = .int .i64 a ∧ 0 ≤ a ∧ a ≤ 32768 ∧ pre.length ≤ 32768 ∧ Hid (pre ++ rest = cs ∧ Tiled ws l a rest G ∧ Own wr v pre ∧ FreshV w v ∧ Kept [] w wr)) (fun _ t _ => (G - intOf t).toNat)
  case atStart => exact ⟨[], cs, 0, rfl, by omega, by omega, by simp, H0⟩
  case round =>
    obtain ⟨pre, rest, a, rfl, a0, a1, hp, hr⟩ := hrel
    clear H0
    by_cases hlt : a < G
    · cases rest with
      | nil =>
        exfalso
        have : a = G := hr.out.2.1
        omega
      | cons x rest =>
        obtain ⟨e1, t1, hO, hV, hk⟩ := hr.out
        obtain ⟨hx1, hx2, _⟩ := HC.out a _ a0 t1 x List.mem_cons_self
        have hxa : x.a = a := t1.1
        rw [hxa] at hx1 hx2
        have hz := can_sz t1.2.1
        have hle := t1.2.2.2.2.le
        have hfit : fitL l x.h = 0 := t1.2.2.2.1
        have H1 := Lib.hid (HH.out _ hk a)
        rw [hx1, hx2] at H1
        have hxo : x.h.ok := by rw [← hx2]; exact HOk.out a
        have H2 := Lib.hid (fun y (k : Kept [] w y) => HFt.out y k x.h hxo)
        rw [hfit] at H2
        have hpl : pre.length + 1 ≤ 32768 := by
          have := congrArg List.length e1
          rw [List.length_append, List.length_cons] at this
          omega
        have HE : Hid ((pre ++ [x]) ++ rest = cs ∧ Tiled ws l (a + x.h.sz) rest G) := Lib.hid ⟨by rw [← e1]; simp, t1.2.2.2.2⟩
        have HO := Lib.hid hO
        have HV := Lib.hid hV
        have HK := Lib.hid hk
        clear hr e1 t1 hO hV hk hx1 hx2 hfit hxo
        obtain ⟨xa, ⟨xt, xy, xl, xz⟩⟩ := x
        simp only at hxa hz hle HE H1 H2
        subst hxa
        unfold Hd.val at H1 H2
        simp only at H1 H2
        go_wp2_with fail
        refine H1.out.mono ?_
        rintro e w1 ⟨rfl, k1⟩
        have hB1 : Has (w1.alloc (.cells #[.int .u8 xt, .int .i64 xy, .int .i64 xl, .int .i64 xz] 49)) w1.heap.size 49 [.int .u8 xt, .int .i64 xy, .int .i64 xl, .int .i64 xz] := Has.new w1 _ _
        have K1 := Lib.hid (k1.alloc (.cells #[.int .u8 xt, .int .i64 xy, .int .i64 xl, .int .i64 xz] 49))
        have B1 := Lib.hid hB1
        clear k1 H1 hB1
        go_wp2_with fail
        generalize w1.alloc (.cells #[.int .u8 xt, .int .i64 xy, .int .i64 xl, .int .i64 xz] 49) = y1 at *
        generalize w1.heap.size = hb at *
        obtain ⟨c0, c1, c2, c3⟩ := cells4 B1.out
        go_wp2_with fail
        refine (H2.out _ (HK.out.trans K1.out)).mono ?_
        rintro e w2 ⟨rfl, k2⟩
        have hB2 := B1.out.keep0 k2
        have hO2 := HO.out.keep0 (K1.out.trans k2)
        clear c0 c1 c2 c3
        obtain ⟨c0, c1, c2, c3⟩ := cells4 hB2
        have hka : Kept [] w2 (w2.alloc (.cells #[.int .i64 xa, .int .u8 xt, .int .i64 xy, .int .i64 xl, .int .i64 xz] 51)) := (Kept.refl [] w2).alloc _
        have HSn : Hid (Seen (w2.alloc (.cells #[.int .i64 xa, .int .u8 xt, .int .i64 xy, .int .i64 xl, .int .i64 xz] 51)) (some ⟨w2.heap.size, 0, none⟩) [⟨xa, ⟨xt, xy, xl, xz⟩⟩]) := Lib.hid (seen_one (x := ⟨xa, ⟨xt, xy, xl, xz⟩⟩) (Has.new w2 _ _))
        have HO2 := Lib.hid (hO2.keep0 hka)
        have HB2 := Lib.hid (hB2.keep0 hka)
        have K2 := Lib.hid (((HK.out.trans K1.out).trans k2).trans hka)
        clear k2 hB2 hO2 hka B1 K1 HO HK H2
        go_wp2_with (at_builtin; (refine append_cels rfl (.tmp 39) (.tmp 43) rfl u6 pre rfl HO2.out (some ⟨w2.heap.size, 0, none⟩) 1 [⟨xa, ⟨xt, xy, xl, xz⟩⟩] rfl (fun h => by cases h) HSn.out (by rw [List.length_singleton]; omega) ?_))
        intro v' w4 o4 g4 b4 _
        have hk4 := own_grown K2.out HV.out g4
        have hf4 := own_fresh (v' := v') K2.out HV.out (by rw [World.size_alloc]; exact b4)
        have hne : hb ∉ u6.ownBlock.toList := fun hm => by
          obtain ⟨cs, hcs⟩ := own_cells HO2.out _ hm
          exact Has.block_type HB2.out hcs (by decide) rfl
        have hB4 := HB2.out.kept (kept_grown g4) hne
        clear c0 c1 c2 c3
        obtain ⟨c0, c1, c2, c3⟩ := cells4 hB4
        have HN : Hid (((pre ++ [(⟨xa, ⟨xt, xy, xl, xz⟩⟩ : Cel)]) ++ rest = cs) ∧ Tiled ws l (xa + xz) rest G ∧ Own w4 v' (pre ++ [(⟨xa, ⟨xt, xy, xl, xz⟩⟩ : Cel)]) ∧ FreshV w v' ∧ Kept [] w w4) := Lib.hid ⟨HE.out.1, HE.out.2, o4, hf4, hk4⟩
        clear o4 g4 b4 hk4 hf4 hne hB4 HSn HO2 HB2 K2 HE HV
        go_wp2_with fail
        go_roundw
        case rel => exact ⟨pre ++ [_], rest, xa + xz, rfl, by omega, by omega, by rw [List.length_append, List.length_singleton]; omega, HN⟩
        case measure => simp [intOf]; omega
    · obtain ⟨e1, t1, hO, hV, hk⟩ := hr.out
      have hrest : rest = [] := by
        cases rest with
        | nil => rfl
        | cons x rest => have := t1.2.2.2.2.le; have := can_sz t1.2.1; omega
      subst hrest
      have haG : a = G := t1
      subst haG
      rw [List.append_nil] at e1
      subst e1
      have HF := Lib.hid (And.intro hO (And.intro hV hk))
      clear hr hO hV hk t1
      go_wp2_with fail
      go_ret2
      exact ⟨u6, rfl, HF.out⟩

/-- What every call of the document's space may ask of its words and types. -/
structure Fit (x : World) (B : Option Addr) (l : List Ty) (ws : List Int) (cs : List Cel) : Prop where
  short : ws.length ≤ 65536
  wm : Wm ws
  types : Tb.Seen x B l
  ok : ∀ t ∈ l, t.ok ∧ t.fit
  few : l.length ≤ 64
  tiled : Tiled ws l 0 cs (gran ws)
theorem Fit.keep0 {x y : World} {B : Option Addr} {l : List Ty} {ws : List Int} {cs : List Cel} (h : Fit x B l ws cs) (k : Kept [] x y) : Fit y B l ws cs := ⟨h.short, h.wm, h.types.keep0 k, h.ok, h.few, h.tiled⟩
theorem Fit.most {x : World} {B : Option Addr} {l : List Ty} {ws : List Int} {cs : List Cel} (h : Fit x B l ws cs) : cs.length ≤ 32768 := by
  have hs := h.short
  rcases (h.tiled.scans (Int.le_refl _)).length (Int.le_refl _) with k | k
  · omega
  · subst k; simp
set_option maxRecDepth 100000 in
set_option maxHeartbeats 1000000 in
theorem all_ok {x : World} {r q cap : Nat} {B : Option Addr} {d : Nat} {l : List Ty} {ws : List Int} {cs : List Cel} (h : DSp x r q cap B d l ws) (hf : Fit x B l ws cs) :
    Calls Tryz.prog 107 #[.pointer (some ⟨r, 0, none⟩)] x fun e y => ∃ v, e = .returned v ∧ Own y v cs ∧ FreshV x v ∧ Kept [] x y := by
  have HC : Hid (∀ y : World, Kept [] x y → Calls Tryz.prog 138 #[.slice (some ⟨q, 0, none⟩) ws.length cap, .slice B l.length d] y fun e w' => ∃ v, e = .returned (.tuple #[v, .bool true]) ∧ Hid (Own w' v cs ∧ FreshV x v ∧ Kept [] x w') ∧ w'.cell? ⟨r, 0, none⟩ = some (.slice (some ⟨q, 0, none⟩) ws.length cap) ∧ w'.cell? ⟨r, 1, none⟩ = some (.slice B l.length d)) :=
    Lib.hid fun y k => (dcells_ok (c := cap) (d := d) (h.row.seen.keep0 k) hf.short (wds_of hf.wm) (hf.types.keep0 k) hf.ok (by have := hf.few; omega) cs hf.tiled).mono fun e z ⟨v, he, hO, hV, hk⟩ =>
      ⟨v, he, Lib.hid ⟨hO, hV.imp id fun ⟨b, hb, hl⟩ => ⟨b, hb, Nat.le_trans k.more hl⟩, k.trans hk⟩, (h.keep0 (k.trans hk)).cells.1, (h.keep0 (k.trans hk)).cells.2.1⟩
  obtain ⟨c0, c1, f0⟩ := h.cells
  have hx0 : Kept [] x x := Kept.refl _ _
  clear h hf
  generalize ws.length = L at *
  generalize l.length = M at *
  go_enter Tryz.func107, Tryz.ntmps107
  go_wp2_with fail
  go_region_held3 (fun y => y.cell? ⟨r, 0, none⟩ = some (.slice (some ⟨q, 0, none⟩) L cap) ∧ y.cell? ⟨r, 1, none⟩ = some (.slice B M d)) (go_keep)
    (first
      | (go_at_call 138; refine (HC.out _ ?_).mono ?_; (first | exact hx0 | exact hx0.drewN _ | exact hx0.drew); rintro e z1 ⟨v, rfl, hO, r0, r1⟩))
  all_goals
    clear r0 r1 c0 c1 f0 HC hx0
    go_wp2_with fail
    go_ret
    exact ⟨v, rfl, hO.out⟩
end Go.Proofs.YtoagghileebokaaGreatDoor.Sp

/-
  The contract of the document's Drop.
-/
namespace Go.Proofs.YtoagghileebokaaGreatDoor.Sp
open Go.RowKit Go.Proofs.YtoagghileebokaaGreatDoor.Ar Go.Proofs.YtoagghileebokaaGreatDoor.Sh
open Go.Proofs.YtoagghileebokaaGreatDoor.Hd (Hd Fields encW gapH errH cells4 free4 ofL of_facts)
open Go.Proofs.YtoagghileebokaaGreatDoor.Tb (Ty sizeE sizeT)
set_option linter.unusedVariables false
theorem objAt_at {cs : List Cel} {j : Nat} (hj : j < cs.length) {ws : List Int} {l : List Ty} {e g : Int} (hT : Tiled ws l 0 cs e) (ha : (cs.getD j Cel.zero).a = g) (ht : (cs.getD j Cel.zero).h.tg = 1) :
    objAt [] cs g = some ((cs.take j).reverse, cs.getD j Cel.zero, cs.drop (j + 1)) ∧ 0 ≤ fromR (cs.take j).reverse g ∧ fromR (cs.take j).reverse g ≤ g ∧ g + (cs.getD j Cel.zero).h.sz ≤ toR (cs.drop (j + 1)) (g + (cs.getD j Cel.zero).h.sz) ∧ toR (cs.drop (j + 1)) (g + (cs.getD j Cel.zero).h.sz) ≤ e := by
  have hs : cs = cs.take j ++ cs.getD j Cel.zero :: cs.drop (j + 1) := by rw [← cel_drop hj, List.take_append_drop]
  have hT' := hT
  rw [hs] at hT'
  obtain ⟨m, t1, t2⟩ := Tiled.split hT'
  have hm : (cs.getD j Cel.zero).a = m := t2.1
  have hmg : m = g := by omega
  subst hmg
  have h1 : objAt [] cs m = some ((cs.take j).reverse, cs.getD j Cel.zero, cs.drop (j + 1)) := by
    have h2 := objAt_some (A := []) hT' ha ht
    rw [List.append_nil] at h2
    exact (congrArg (fun z => objAt [] z m) hs).trans h2
  obtain ⟨A1, A2, m1, _, _, _, u1, u2, u3⟩ := fromR_cut (A := (cs.take j).reverse) (by rw [List.reverse_reverse]; exact t1)
  obtain ⟨B1, B2, m2, _, _, _, v1, v2, v3⟩ := toR_cut t2.2.2.2.2
  refine ⟨h1, ?_, ?_, ?_, ?_⟩
  · rw [u3]; exact u1.le
  · rw [u3]; exact u2.le
  · rw [v3]; exact v1.le
  · rw [v3]; exact v2.le
theorem tag_b {P : Prop} [Decidable P] (hp : P) (z : Int) : (z != 1) = decide (P ∧ z ≠ 1) := by
  by_cases h : z = 1
  · subst h; simp
  · have h1 : (z != 1) = true := by rw [bne_iff_ne]; exact h
    rw [h1, decide_eq_true ⟨hp, h⟩]
section
variable {x : World} {r q cap : Nat} {B : Option Addr} {d : Nat} {l : List Ty} {ws : List Int} {cs : List Cel}
set_option maxRecDepth 100000 in
set_option maxHeartbeats 8000000 in
theorem sdrop_ok (h : DSp x r q cap B d l ws) (hf : Fit x B l ws cs) (g : Int) (g0 : -9223372036854775808 ≤ g) (g1 : g ≤ 9223372036854775807) :
    Calls Tryz.prog 79 #[.pointer (some ⟨r, 0, none⟩), .int .i64 g] x fun e y => e = .returned (.int .i64 (dropE cs g)) ∧ Doc x y r q B d l (dropX ws cs g) := by
  have hsh := hf.short
  have hgr : 0 ≤ gran ws ∧ gran ws ≤ 32768 := by unfold gran; omega
  have hmost := hf.most
  have HAl := Lib.hid (all_ok h hf)
  have HD := Lib.hid h
  have HT := Lib.hid hf.tiled
  have HAt := Lib.hid (fun (j : Nat) (hj : j < cs.length) => objAt_at (g := g) hj hf.tiled)
  have HNo := Lib.hid (fun (hn : ∀ c ∈ cs, c.h.tg = 1 → c.a ≠ g) => objAt_none (A := []) hn)
  have HDe : Hid (∀ A c B, objAt [] cs g = some (A, c, B) → dropE cs g = 0 ∧ dropX ws cs g = gapS ws (fromR A g) (toR B (g + c.h.sz))) := Lib.hid fun A c B e => by unfold dropE dropX; rw [e]; exact ⟨rfl, rfl⟩
  have HDn : Hid (objAt [] cs g = none → dropE cs g = 3 ∧ dropX ws cs g = ws) := Lib.hid fun e => by unfold dropE dropX; rw [e]; exact ⟨rfl, rfl⟩
  have HLay : Hid (∀ y, Kept [] x y → ∀ f e : Int, 0 ≤ f → f < e → e ≤ gran ws → Calls Tryz.prog 105 #[.pointer (some ⟨r, 0, none⟩), .int .i64 f, .int .i64 (e - f)] y fun e1 y1 => (∃ v, e1 = .returned v) ∧ Doc y y1 r q B d l (gapS ws f e)) := Lib.hid fun y k f e h1 h2 h3 => by
    have h4 := lay_ok (h.keep0 k) hf.short f (e - f) h1 (fun _ => by omega) (by omega)
    rw [show f + (e - f) = e by omega] at h4
    exact h4
  clear h hf
  generalize gran ws = G at *
  go_enter Tryz.func79, Tryz.ntmps79
  go_wp2_with fail
  refine HAl.out.mono ?_
  rintro e x2 ⟨v, rfl, hO, hV, k2⟩
  obtain ⟨Av, cv, rfl, _⟩ := back_own (Kept.refl [] _) hO
  have HSn := Lib.hid hO.seen
  have K2 := Lib.hid k2
  have H0 : Hid (∀ c ∈ cs.take 0, c.h.tg = 1 → c.a ≠ g) := Lib.hid (by simp)
  clear hO hV k2 HAl
  go_wp2_with fail
  go_loop [6] (fun t => ∃ j : Nat, t = .int .i64 (j : Int) ∧ j ≤ cs.length ∧ Hid (∀ c ∈ cs.take j, c.h.tg = 1 → c.a ≠ g)) (fun t => cs.length - (intOf t).toNat)
  case atStart => exact ⟨0, rfl, Nat.zero_le _, H0⟩
  case round =>
    obtain ⟨j, rfl, hj, hr⟩ := hrel
    clear H0
    by_cases hlt : j < cs.length
    · obtain ⟨g9, o9, rfl, hg9, c0, c1, c2, c3, c4⟩ := HSn.out.at j hlt _ rfl
      have hxm := cel_mem hlt
      have htk := cel_take hlt
      have hat := HAt.out j hlt
      generalize hx : cs.getD j Cel.zero = c at hxm htk hat c0 c1 c2 c3 c4
      obtain ⟨m1, m2, m3, m4, m5⟩ := HT.out.mem c hxm
      have hz := can_sz m3
      by_cases hyes : c.a = g ∧ c.h.tg = 1
      · obtain ⟨ha, ht⟩ := hyes
        obtain ⟨o1, o2, o3, o4, o5⟩ := hat ha ht
        obtain ⟨e1, e2⟩ := HDe.out _ _ _ o1
        obtain ⟨F, hF⟩ : ∃ F, fromR (cs.take j).reverse g = F := ⟨_, rfl⟩
        obtain ⟨T, hTo⟩ : ∃ T, toR (cs.drop (j + 1)) (g + c.h.sz) = T := ⟨_, rfl⟩
        rw [hF] at o2 o3
        rw [hTo] at o4 o5
        rw [hF, hTo] at e2
        have HE := Lib.hid (And.intro e1 e2)
        have hFT : F < T := by omega
        have HFF := Lib.hid hF
        have HTT := Lib.hid hTo
        have HL := Lib.hid (fun y k => HLay.out y k F T o2 hFT o5)
        clear hF hTo hr e1 e2 o1 htk m4 m5 m3 HDe HDn HNo HAt HLay hxm hx hat
        obtain ⟨xa, ⟨xt, xy, xl, xz⟩⟩ := c
        simp only at *
        subst ha ht
        go_wp2_with fail
        go_quiet (fail)
        have K3 := Lib.hid ((Kept.refl [] x2).drewN nq)
        generalize x2.drewN nq = x3 at *
        have HS3 := Lib.hid (HSn.out.keep0 K3.out)
        clear c0 c1 c2 c3 c4
        go_wp2_with fail
        go_loopw [7, 9] (fun f t wr => ∃ (m : Nat) (fv tv : Int), f = .int .i64 fv ∧ t = .int .i64 tv ∧ tv = (m : Int) - 1 ∧ m ≤ j ∧ Hid (fromR (cs.take m).reverse fv = F ∧ Kept [] x3 wr)) (fun _ t _ => (intOf t + 1).toNat)
        case atStart => exact ⟨j, _, _, rfl, rfl, by omega, Nat.le_refl _, Lib.hid ⟨HFF.out, Kept.refl _ _⟩⟩
        case round =>
          obtain ⟨m, fv, tv, rfl, rfl, htv, hm, hr⟩ := hrel
          go_upto_region 8 with fail
          go_cut [56] (fun vv wx => vv = .bool (decide (1 ≤ m ∧ (cs.getD (m - 1) Cel.zero).h.tg ≠ 1)) ∧ wx = wr)
          case first =>
            cases m with
            | zero =>
              have hge : decide (tv ≥ 0) = false := decide_eq_false (by omega)
              have hge2 : decide (0 ≤ tv) = false := decide_eq_false (by omega)
              have hd : Hid (decide (1 ≤ 0 ∧ (cs.getD (0 - 1) Cel.zero).h.tg ≠ 1) = false) := Lib.hid (decide_eq_false (by omega))
              clear hr htv
              go_wp2_with fail
              go_meet
              case rel => exact ⟨by rw [hd.out], rfl⟩
            | succ m =>
              obtain rfl : tv = (m : Int) := by omega
              clear htv
              have hml : m < cs.length := by omega
              obtain ⟨g8, o8, e8, _, b0, b1, b2, b3, b4⟩ := (HS3.out.keep0 hr.out.2).at m hml _ rfl
              injection e8 with e8
              injection e8 with e8 e9
              subst e8 e9
              obtain ⟨tb, hb1, hb2⟩ : ∃ b : Bool, ((cs.getD m Cel.zero).h.tg != 1) = b ∧ decide (1 ≤ m + 1 ∧ (cs.getD (m + 1 - 1) Cel.zero).h.tg ≠ 1) = b := ⟨_, rfl, (tag_b (by omega) _).symm⟩
              have hge : decide ((m : Int) ≥ 0) = true := decide_eq_true (by omega)
              have hge2 : decide (0 ≤ (m : Int)) = true := decide_eq_true (by omega)
              have hd := Lib.hid hb2
              clear hr hb2
              generalize (cs.getD m Cel.zero).h.tg = zt at *
              cases tb
              all_goals
                go_wp2_with fail
                go_meet
                case rel => exact ⟨by rw [hd.out], rfl⟩
          case rest =>
            obtain ⟨rfl, rfl⟩ := hcut
            by_cases hgo : 1 ≤ m ∧ (cs.getD (m - 1) Cel.zero).h.tg ≠ 1
            · rw [decide_eq_true hgo]
              obtain ⟨m, rfl⟩ : ∃ m', m = m' + 1 := ⟨m - 1, by omega⟩
              obtain rfl : tv = (m : Int) := by omega
              clear htv
              have hml : m < cs.length := by omega
              obtain ⟨g8, o8, e8, _, b0, b1, b2, b3, b4⟩ := (HS3.out.keep0 hr.out.2).at m hml _ rfl
              injection e8 with e8
              injection e8 with e8 e9
              subst e8 e9
              have HN : Hid (fromR (cs.take m).reverse (cs.getD m Cel.zero).a = F ∧ Kept [] x3 wc) := Lib.hid ⟨by
                have h1 := hr.out.1
                rw [cel_take hml, List.reverse_append] at h1
                have h2 : fromR ((cs.getD m Cel.zero) :: (cs.take m).reverse) fv = F := h1
                unfold fromR at h2
                rw [if_neg (show ¬ (cs.getD m Cel.zero).h.tg = 1 from hgo.2)] at h2
                exact h2, hr.out.2⟩
              clear hr hgo
              generalize (cs.getD m Cel.zero).a = za at *
              go_wp2_with fail
              go_roundw
              case rel => exact ⟨m, za, _, rfl, rfl, rfl, by omega, HN⟩
              case measure => simp [intOf] <;> omega
            · rw [decide_eq_false hgo]
              have hfv : fv = F := by
                have h1 := hr.out.1
                cases m with
                | zero => exact h1
                | succ m =>
                  have ht1 : (cs.getD m Cel.zero).h.tg = 1 := Classical.byContradiction fun hh => hgo ⟨by omega, hh⟩
                  rw [cel_take (show m < cs.length by omega), List.reverse_append] at h1
                  have h2 : fromR ((cs.getD m Cel.zero) :: (cs.take m).reverse) fv = F := h1
                  unfold fromR at h2
                  rw [if_pos ht1] at h2
                  exact h2
              subst hfv
              have K4 := Lib.hid (K3.out.trans hr.out.2)
              have HS4 := Lib.hid (HS3.out.keep0 hr.out.2)
              clear hr hgo HS3 HFF htv hm
              go_wp2_with fail
              go_loopw [8, 10] (fun f t wr => ∃ (m : Nat) (tv : Int), f = .int .i64 tv ∧ t = .int .i64 (m : Int) ∧ j + 1 ≤ m ∧ m ≤ cs.length ∧ Hid (toR (cs.drop m) tv = T ∧ Kept [] x2 wr)) (fun _ t _ => (cs.length - (intOf t).toNat))
              case atStart => exact ⟨j + 1, _, rfl, by go_num, Nat.le_refl _, by omega, Lib.hid ⟨HTT.out, K4.out⟩⟩
              case round =>
                obtain ⟨m, tw, rfl, rfl, hm1, hm2, hr⟩ := hrel
                go_upto_region 12 with fail
                go_cut [78] (fun vv wx => vv = .bool (decide (m < cs.length ∧ (cs.getD m Cel.zero).h.tg ≠ 1)) ∧ wx = wr)
                case first =>
                  by_cases hml : m < cs.length
                  · obtain ⟨g8, o8, e8, _, b0, b1, b2, b3, b4⟩ := (HSn.out.keep0 hr.out.2).at m hml _ rfl
                    injection e8 with e8
                    injection e8 with e8 e9
                    subst e8 e9
                    obtain ⟨tb, hb1, hb2⟩ : ∃ b : Bool, ((cs.getD m Cel.zero).h.tg != 1) = b ∧ decide (m < cs.length ∧ (cs.getD m Cel.zero).h.tg ≠ 1) = b := ⟨_, rfl, (tag_b hml _).symm⟩
                    have hd := Lib.hid hb2
                    clear hr hb2
                    generalize (cs.getD m Cel.zero).h.tg = zt at *
                    cases tb
                    all_goals
                      go_wp2_with fail
                      go_meet
                      case rel => exact ⟨by rw [hd.out], rfl⟩
                  · have hd : Hid (decide (m < cs.length ∧ (cs.getD m Cel.zero).h.tg ≠ 1) = false) := Lib.hid (decide_eq_false (fun h => hml h.1))
                    clear hr
                    go_wp2_with fail
                    go_meet
                    case rel => exact ⟨by rw [hd.out], rfl⟩
                case rest =>
                  obtain ⟨rfl, rfl⟩ := hcut
                  by_cases hgo : m < cs.length ∧ (cs.getD m Cel.zero).h.tg ≠ 1
                  · rw [decide_eq_true hgo]
                    obtain ⟨hml, hgt⟩ := hgo
                    obtain ⟨g8, o8, e8, _, b0, b1, b2, b3, b4⟩ := (HSn.out.keep0 hr.out.2).at m hml _ rfl
                    injection e8 with e8
                    injection e8 with e8 e9
                    subst e8 e9
                    obtain ⟨y1, y2, y3, _⟩ := HT.out.mem _ (cel_mem hml)
                    have hyz := can_sz y3
                    have HN : Hid (toR (cs.drop (m + 1)) ((cs.getD m Cel.zero).a + (cs.getD m Cel.zero).h.sz) = T ∧ Kept [] x2 wc) := Lib.hid ⟨by
                      have h1 := hr.out.1
                      rw [cel_drop hml] at h1
                      unfold toR at h1
                      rw [if_neg hgt] at h1
                      exact h1, hr.out.2⟩
                    clear hr hgt y3
                    generalize cs.getD m Cel.zero = zc at *
                    obtain ⟨za, ⟨zt, zy, zl, zz⟩⟩ := zc
                    simp only at *
                    go_wp2_with fail
                    go_quiet (fail)
                    have HN2 : Hid (toR (cs.drop (m + 1)) (za + zz) = T ∧ Kept [] x2 (wc.drewN nq)) := Lib.hid ⟨HN.out.1, HN.out.2.drewN _⟩
                    clear b0 b1 b2 b3 b4
                    go_wp2_with fail
                    go_roundw
                    case rel => exact ⟨m + 1, za + zz, rfl, by go_num, by omega, by omega, HN2⟩
                    case measure => simp [intOf] <;> omega
                  · rw [decide_eq_false hgo]
                    have htw : tw = T := by
                      have h1 := hr.out.1
                      by_cases hml : m < cs.length
                      · have ht1 : (cs.getD m Cel.zero).h.tg = 1 := Classical.byContradiction fun hh => hgo ⟨hml, hh⟩
                        rw [cel_drop hml] at h1
                        unfold toR at h1
                        rw [if_pos ht1] at h1
                        exact h1
                      · rw [List.drop_eq_nil_of_le (by omega)] at h1
                        exact h1
                    subst htw
                    have HL5 := Lib.hid (HL.out _ (K2.out.trans hr.out.2))
                    have K5 := Lib.hid (K2.out.trans hr.out.2)
                    clear hr hgo HS4 HTT K4 HL
                    go_wp2_with fail
                    refine HL5.out.mono ?_
                    rintro e y ⟨⟨v9, rfl⟩, q', cap', h7, hq', k7⟩
                    have HEnd : Hid (Doc x y r q B d l (gapS ws fv tw)) := Lib.hid ⟨q', cap', h7, hq'.imp id (fun hh => Nat.le_trans K5.out.more hh), (K5.out.none _).trans k7⟩
                    clear h7 hq' k7 HL5
                    go_wp2_with fail
                    go_ret
                    exact ⟨ret_int HE.out.1.symm, by rw [HE.out.2]; exact HEnd.out⟩
      · have HN : Hid (∀ c ∈ cs.take (j + 1), c.h.tg = 1 → c.a ≠ g) := Lib.hid fun e he => by
          rw [htk] at he
          rcases List.mem_append.1 he with he | he
          · exact hr.out e he
          · rw [List.mem_singleton.1 he]
            exact fun h1 h2 => hyes ⟨h2, h1⟩
        clear hr htk m3 m4 m5 HDe HDn HNo HAt HLay hxm hx hat
        obtain ⟨xa, ⟨xt, xy, xl, xz⟩⟩ := c
        simp only at *
        by_cases ha : xa = g
        · subst ha
          have hb : (xt != 1) = true := by rw [bne_iff_ne]; exact fun h => hyes ⟨rfl, h⟩
          clear hyes
          go_wp2_with fail
          go_round
          case rel => exact ⟨j + 1, by go_num, by omega, HN⟩
          case measure => simp [intOf] <;> omega
        · have hb : (xa != g) = true := by rw [bne_iff_ne]; exact ha
          clear hyes ha
          go_wp2_with fail
          go_round
          case rel => exact ⟨j + 1, by go_num, by omega, HN⟩
          case measure => simp [intOf] <;> omega
    · obtain rfl : j = cs.length := by omega
      have hn := hr.out
      rw [List.take_length] at hn
      obtain ⟨e1, e2⟩ := HDn.out (HNo.out hn)
      have HE := Lib.hid (And.intro e1 e2)
      clear hr hn e1 e2
      go_wp2_with fail
      go_ret
      exact ⟨ret_int HE.out.1.symm, by rw [HE.out.2]; exact Doc.same HD.out K2.out⟩
end
end Go.Proofs.YtoagghileebokaaGreatDoor.Sp
