/-
  Several texts in one: SpDocCells, SpDocDrop, SpDocMake, SpDocPut.
-/
import Derived.Test.YtagmmbkgjomdlaaGreatDoorG24
import Derived.Test.YtagmmbkgjomdlaaGreatDoorG26
import Derived.Test.YtagmmbkgjomdlaaGreatDoorG15
import Derived.Deep.RegionHeld3
import Derived.Test.YtagmmbkgjomdlaaGreatDoorG22
import Derived.Deep.DeepCutAuto
/-
  The contracts of the document's Cells (layers 9 and 10) and of All, of words that cells fill.
-/
namespace Go.Proofs.YtagmmbkgjomdlaaGreatDoor.Sp
open Go.RowKit Go.Proofs.YtagmmbkgjomdlaaGreatDoor.Ar Go.Proofs.YtagmmbkgjomdlaaGreatDoor.Sh
open Go.Proofs.YtagmmbkgjomdlaaGreatDoor.Hd (Hd Fields encW gapH errH dgap_ok dencode_ok cells4 free4 dfits_row fitL)
open Go.Proofs.YtagmmbkgjomdlaaGreatDoor.Tb (Ty)
set_option linter.unusedVariables false

set_option maxRecDepth 100000 in
set_option maxHeartbeats 4000000 in
theorem dcells_ok {w : World} {A B : Option Addr} {c d : Nat} {ws : List Int} {l : List Ty} (hS : Ar.Seen w A ws) (hl : ws.length ≤ 65536) (hW : Wds ws) (hL : Tb.Seen w B l) (hok : ∀ x ∈ l, x.ok ∧ x.fit) (hlen : l.length ≤ 100000) (cs : List Cel) (hT : Tiled ws l 0 cs (gran ws)) :
    Calls Tryz.prog 47 #[.slice A ws.length c, .slice B l.length d] w fun e w' => ∃ v, e = .returned (.tuple #[v, .bool true]) ∧ Own w' v cs ∧ FreshV w v ∧ Kept [] w w' := by
  have HH := Lib.hid (fun y (k : Kept [] w y) (g : Int) => dhead_any (c := c) (hS.keep0 k) (by omega) hW g)
  have HFt := Lib.hid (fun y (k : Kept [] w y) (x : Hd) (ok : x.ok) => dfits_row (c := d) (hL.keep0 k) hok hlen x ok)
  have HOk := Lib.hid (fun g => hdH_ok (g := g) hW)
  have hgr : 0 ≤ gran ws ∧ gran ws ≤ 32768 := by unfold gran; omega
  have HC := Lib.hid (fun a rest (a0 : 0 ≤ a) (h : Tiled ws l a rest (gran ws)) => Tiled.cell h a0 (show gran ws ≤ (ws.length : Int) / 2 from Int.le_refl _))
  have hcl : cs.length ≤ 32768 := by
    rcases (hT.scans (Int.le_refl _)).length (Int.le_refl _) with h | h
    · unfold gran at hgr; omega
    · subst h; simp
  have ed : (ws.length : Int).tdiv 2 = gran ws := Int.tdiv_eq_ediv_of_nonneg (by omega)
  have H0 : Hid ([] ++ cs = cs ∧ Tiled ws l 0 cs (gran ws) ∧ Own w (.slice none 0 0) [] ∧ FreshV w (.slice none 0 0) ∧ Kept [] w w) := Lib.hid ⟨rfl, hT, Own.nil _, .inl rfl, Kept.refl _ _⟩
  clear hS hL hW hok hT
  generalize ws.length = L at *
  generalize gran ws = G at *
  go_enter Tryz.func47, Tryz.ntmps47
  go_wp2_with fail
  go_loopw [6, 7] (fun v t wr => ∃ (pre rest : List Cel) (a : Int), t = .int .i64 a ∧ 0 ≤ a ∧ a ≤ 32768 ∧ pre.length ≤ 32768 ∧ Hid (pre ++ rest = cs ∧ Tiled ws l a rest G ∧ Own wr v pre ∧ FreshV w v ∧ Kept [] w wr)) (fun _ t _ => (G - intOf t).toNat)
  case atStart => exact ⟨[], cs, 0, rfl, by omega, by omega, by simp, H0⟩
  case round =>
    obtain ⟨pre, rest, a, rfl, a0, a1, hp, hr⟩ := hrel
    clear H0
    by_cases hlt : a < G
    · cases rest with
      | nil =>
        exfalso
        have : a = G := hr.out.2.1
        omega
      | cons x rest =>
        obtain ⟨e1, t1, hO, hV, hk⟩ := hr.out
        obtain ⟨hx1, hx2, _⟩ := HC.out a _ a0 t1 x List.mem_cons_self
        have hxa : x.a = a := t1.1
        rw [hxa] at hx1 hx2
        have hz := can_sz t1.2.1
        have hle := t1.2.2.2.2.le
        have hfit : fitL l x.h = 0 := t1.2.2.2.1
        have H1 := Lib.hid (HH.out _ hk a)
        rw [hx1, hx2] at H1
        have hxo : x.h.ok := by rw [← hx2]; exact HOk.out a
        have H2 := Lib.hid (fun y (k : Kept [] w y) => HFt.out y k x.h hxo)
        rw [hfit] at H2
        have hpl : pre.length + 1 ≤ 32768 := by
          have := congrArg List.length e1
          rw [List.length_append, List.length_cons] at this
          omega
        have HE : Hid ((pre ++ [x]) ++ rest = cs ∧ Tiled ws l (a + x.h.sz) rest G) := Lib.hid ⟨by rw [← e1]; simp, t1.2.2.2.2⟩
        have HO := Lib.hid hO
        have HV := Lib.hid hV
        have HK := Lib.hid hk
        clear hr e1 t1 hO hV hk hx1 hx2 hfit hxo
        obtain ⟨xa, ⟨xt, xy, xl, xz⟩⟩ := x
        simp only at hxa hz hle HE H1 H2
        subst hxa
        unfold Hd.val at H1 H2
        simp only at H1 H2
        go_wp2_with fail
        refine H1.out.mono ?_
        rintro e w1 ⟨rfl, k1⟩
        have hB1 : Has (w1.alloc (.cells #[.int .u8 xt, .int .i64 xy, .int .i64 xl, .int .i64 xz] 76)) w1.heap.size 76 [.int .u8 xt, .int .i64 xy, .int .i64 xl, .int .i64 xz] := Has.new w1 _ _
        have K1 := Lib.hid (k1.alloc (.cells #[.int .u8 xt, .int .i64 xy, .int .i64 xl, .int .i64 xz] 76))
        have B1 := Lib.hid hB1
        clear k1 H1 hB1
        go_wp2_with fail
        generalize w1.alloc (.cells #[.int .u8 xt, .int .i64 xy, .int .i64 xl, .int .i64 xz] 76) = y1 at *
        generalize w1.heap.size = hb at *
        obtain ⟨c0, c1, c2, c3⟩ := cells4 B1.out
        go_wp2_with fail
        refine (H2.out _ (HK.out.trans K1.out)).mono ?_
        rintro e w2 ⟨rfl, k2⟩
        have hB2 := B1.out.keep0 k2
        have hO2 := HO.out.keep0 (K1.out.trans k2)
        clear c0 c1 c2 c3
        obtain ⟨c0, c1, c2, c3⟩ := cells4 hB2
        have hka : Kept [] w2 (w2.alloc (.cells #[.int .i64 xa, .int .u8 xt, .int .i64 xy, .int .i64 xl, .int .i64 xz] 78)) := (Kept.refl [] w2).alloc _
        have HSn : Hid (Seen (w2.alloc (.cells #[.int .i64 xa, .int .u8 xt, .int .i64 xy, .int .i64 xl, .int .i64 xz] 78)) (some ⟨w2.heap.size, 0, none⟩) [⟨xa, ⟨xt, xy, xl, xz⟩⟩]) := Lib.hid (seen_one (x := ⟨xa, ⟨xt, xy, xl, xz⟩⟩) (Has.new w2 _ _))
        have HO2 := Lib.hid (hO2.keep0 hka)
        have HB2 := Lib.hid (hB2.keep0 hka)
        have K2 := Lib.hid (((HK.out.trans K1.out).trans k2).trans hka)
        clear k2 hB2 hO2 hka B1 K1 HO HK H2
        go_wp2_with (at_builtin; (refine append_cels rfl (.tmp 39) (.tmp 43) rfl u6 pre rfl HO2.out (some ⟨w2.heap.size, 0, none⟩) 1 [⟨xa, ⟨xt, xy, xl, xz⟩⟩] rfl (fun h => by cases h) HSn.out (by rw [List.length_singleton]; omega) ?_))
        intro v' w4 o4 g4 b4 _
        have hk4 := own_grown K2.out HV.out g4
        have hf4 := own_fresh (v' := v') K2.out HV.out (by rw [World.size_alloc]; exact b4)
        have hne : hb ∉ u6.ownBlock.toList := fun hm => by
          obtain ⟨cs, hcs⟩ := own_cells HO2.out _ hm
          exact Has.block_type HB2.out hcs (by decide) rfl
        have hB4 := HB2.out.kept (kept_grown g4) hne
        clear c0 c1 c2 c3
        obtain ⟨c0, c1, c2, c3⟩ := cells4 hB4
        have HN : Hid (((pre ++ [(⟨xa, ⟨xt, xy, xl, xz⟩⟩ : Cel)]) ++ rest = cs) ∧ Tiled ws l (xa + xz) rest G ∧ Own w4 v' (pre ++ [(⟨xa, ⟨xt, xy, xl, xz⟩⟩ : Cel)]) ∧ FreshV w v' ∧ Kept [] w w4) := Lib.hid ⟨HE.out.1, HE.out.2, o4, hf4, hk4⟩
        clear o4 g4 b4 hk4 hf4 hne hB4 HSn HO2 HB2 K2 HE HV
        go_wp2_with fail
        go_roundw
        case rel => exact ⟨pre ++ [_], rest, xa + xz, rfl, by omega, by omega, by rw [List.length_append, List.length_singleton]; omega, HN⟩
        case measure => simp [intOf]; omega
    · obtain ⟨e1, t1, hO, hV, hk⟩ := hr.out
      have hrest : rest = [] := by
        cases rest with
        | nil => rfl
        | cons x rest => have := t1.2.2.2.2.le; have := can_sz t1.2.1; omega
      subst hrest
      have haG : a = G := t1
      subst haG
      rw [List.append_nil] at e1
      subst e1
      have HF := Lib.hid (And.intro hO (And.intro hV hk))
      clear hr hO hV hk t1
      go_wp2_with fail
      go_ret2
      exact ⟨u6, rfl, HF.out⟩

set_option maxRecDepth 100000 in
set_option maxHeartbeats 4000000 in
theorem ecells_ok {w : World} {A B : Option Addr} {c d : Nat} {ws : List Int} {l : List Ty} (hS : Ar.Seen w A ws) (hl : ws.length ≤ 65536) (hW : Wds ws) (hL : Tb.Seen w B l) (hok : ∀ x ∈ l, x.ok ∧ x.fit) (hlen : l.length ≤ 100000) (cs : List Cel) (hT : Tiled ws l 0 cs (gran ws)) :
    Calls Tryz.prog 52 #[.slice A ws.length c, .slice B l.length d] w fun e w' => ∃ v, e = .returned (.tuple #[v, .int .i64 (gran ws)]) ∧ Own w' v cs ∧ FreshV w v ∧ Kept [] w w' := by
  have HH := Lib.hid (fun y (k : Kept [] w y) (g : Int) => dhead_any (c := c) (hS.keep0 k) (by omega) hW g)
  have HFt := Lib.hid (fun y (k : Kept [] w y) (x : Hd) (ok : x.ok) => dfits_row (c := d) (hL.keep0 k) hok hlen x ok)
  have HOk := Lib.hid (fun g => hdH_ok (g := g) hW)
  have hgr : 0 ≤ gran ws ∧ gran ws ≤ 32768 := by unfold gran; omega
  have HC := Lib.hid (fun a rest (a0 : 0 ≤ a) (h : Tiled ws l a rest (gran ws)) => Tiled.cell h a0 (show gran ws ≤ (ws.length : Int) / 2 from Int.le_refl _))
  have hcl : cs.length ≤ 32768 := by
    rcases (hT.scans (Int.le_refl _)).length (Int.le_refl _) with h | h
    · unfold gran at hgr; omega
    · subst h; simp
  have ed : (ws.length : Int).tdiv 2 = gran ws := Int.tdiv_eq_ediv_of_nonneg (by omega)
  have H0 : Hid ([] ++ cs = cs ∧ Tiled ws l 0 cs (gran ws) ∧ Own w (.slice none 0 0) [] ∧ FreshV w (.slice none 0 0) ∧ Kept [] w w) := Lib.hid ⟨rfl, hT, Own.nil _, .inl rfl, Kept.refl _ _⟩
  clear hS hL hW hok hT
  generalize ws.length = L at *
  generalize gran ws = G at *
  go_enter Tryz.func52, Tryz.ntmps52
  go_wp2_with fail
  go_loopw [6, 7] (fun v t wr => ∃ (pre rest : List Cel) (a : Int), t = .int .i64 a ∧ 0 ≤ a ∧ a ≤ 32768 ∧ pre.length ≤ 32768 ∧ Hid (pre ++ rest = cs ∧ Tiled ws l a rest G ∧ Own wr v pre ∧ FreshV w v ∧ Kept [] w wr)) (fun _ t _ => (G - intOf t).toNat)
  case atStart => exact ⟨[], cs, 0, rfl, by omega, by omega, by simp, H0⟩
  case round =>
    obtain ⟨pre, rest, a, rfl, a0, a1, hp, hr⟩ := hrel
    clear H0
    by_cases hlt : a < G
    · cases rest with
      | nil =>
        exfalso
        have : a = G := hr.out.2.1
        omega
      | cons x rest =>
        obtain ⟨e1, t1, hO, hV, hk⟩ := hr.out
        obtain ⟨hx1, hx2, _⟩ := HC.out a _ a0 t1 x List.mem_cons_self
        have hxa : x.a = a := t1.1
        rw [hxa] at hx1 hx2
        have hz := can_sz t1.2.1
        have hle := t1.2.2.2.2.le
        have hfit : fitL l x.h = 0 := t1.2.2.2.1
        have H1 := Lib.hid (HH.out _ hk a)
        rw [hx1, hx2] at H1
        have hxo : x.h.ok := by rw [← hx2]; exact HOk.out a
        have H2 := Lib.hid (fun y (k : Kept [] w y) => HFt.out y k x.h hxo)
        rw [hfit] at H2
        have hpl : pre.length + 1 ≤ 32768 := by
          have := congrArg List.length e1
          rw [List.length_append, List.length_cons] at this
          omega
        have HE : Hid ((pre ++ [x]) ++ rest = cs ∧ Tiled ws l (a + x.h.sz) rest G) := Lib.hid ⟨by rw [← e1]; simp, t1.2.2.2.2⟩
        have HO := Lib.hid hO
        have HV := Lib.hid hV
        have HK := Lib.hid hk
        clear hr e1 t1 hO hV hk hx1 hx2 hfit hxo
        obtain ⟨xa, ⟨xt, xy, xl, xz⟩⟩ := x
        simp only at hxa hz hle HE H1 H2
        subst hxa
        unfold Hd.val at H1 H2
        simp only at H1 H2
        go_wp2_with fail
        refine H1.out.mono ?_
        rintro e w1 ⟨rfl, k1⟩
        have hB1 : Has (w1.alloc (.cells #[.int .u8 xt, .int .i64 xy, .int .i64 xl, .int .i64 xz] 76)) w1.heap.size 76 [.int .u8 xt, .int .i64 xy, .int .i64 xl, .int .i64 xz] := Has.new w1 _ _
        have K1 := Lib.hid (k1.alloc (.cells #[.int .u8 xt, .int .i64 xy, .int .i64 xl, .int .i64 xz] 76))
        have B1 := Lib.hid hB1
        clear k1 H1 hB1
        go_wp2_with fail
        generalize w1.alloc (.cells #[.int .u8 xt, .int .i64 xy, .int .i64 xl, .int .i64 xz] 76) = y1 at *
        generalize w1.heap.size = hb at *
        obtain ⟨c0, c1, c2, c3⟩ := cells4 B1.out
        go_wp2_with fail
        refine (H2.out _ (HK.out.trans K1.out)).mono ?_
        rintro e w2 ⟨rfl, k2⟩
        have hB2 := B1.out.keep0 k2
        have hO2 := HO.out.keep0 (K1.out.trans k2)
        clear c0 c1 c2 c3
        obtain ⟨c0, c1, c2, c3⟩ := cells4 hB2
        have hka : Kept [] w2 (w2.alloc (.cells #[.int .i64 xa, .int .u8 xt, .int .i64 xy, .int .i64 xl, .int .i64 xz] 78)) := (Kept.refl [] w2).alloc _
        have HSn : Hid (Seen (w2.alloc (.cells #[.int .i64 xa, .int .u8 xt, .int .i64 xy, .int .i64 xl, .int .i64 xz] 78)) (some ⟨w2.heap.size, 0, none⟩) [⟨xa, ⟨xt, xy, xl, xz⟩⟩]) := Lib.hid (seen_one (x := ⟨xa, ⟨xt, xy, xl, xz⟩⟩) (Has.new w2 _ _))
        have HO2 := Lib.hid (hO2.keep0 hka)
        have HB2 := Lib.hid (hB2.keep0 hka)
        have K2 := Lib.hid (((HK.out.trans K1.out).trans k2).trans hka)
        clear k2 hB2 hO2 hka B1 K1 HO HK H2
        go_wp2_with (at_builtin; (refine append_cels rfl (.tmp 41) (.tmp 45) rfl u6 pre rfl HO2.out (some ⟨w2.heap.size, 0, none⟩) 1 [⟨xa, ⟨xt, xy, xl, xz⟩⟩] rfl (fun h => by cases h) HSn.out (by rw [List.length_singleton]; omega) ?_))
        intro v' w4 o4 g4 b4 _
        have hk4 := own_grown K2.out HV.out g4
        have hf4 := own_fresh (v' := v') K2.out HV.out (by rw [World.size_alloc]; exact b4)
        have hne : hb ∉ u6.ownBlock.toList := fun hm => by
          obtain ⟨cs, hcs⟩ := own_cells HO2.out _ hm
          exact Has.block_type HB2.out hcs (by decide) rfl
        have hB4 := HB2.out.kept (kept_grown g4) hne
        clear c0 c1 c2 c3
        obtain ⟨c0, c1, c2, c3⟩ := cells4 hB4
        have HN : Hid (((pre ++ [(⟨xa, ⟨xt, xy, xl, xz⟩⟩ : Cel)]) ++ rest = cs) ∧ Tiled ws l (xa + xz) rest G ∧ Own w4 v' (pre ++ [(⟨xa, ⟨xt, xy, xl, xz⟩⟩ : Cel)]) ∧ FreshV w v' ∧ Kept [] w w4) := Lib.hid ⟨HE.out.1, HE.out.2, o4, hf4, hk4⟩
        clear o4 g4 b4 hk4 hf4 hne hB4 HSn HO2 HB2 K2 HE HV
        go_wp2_with fail
        go_roundw
        case rel => exact ⟨pre ++ [_], rest, xa + xz, rfl, by omega, by omega, by rw [List.length_append, List.length_singleton]; omega, HN⟩
        case measure => simp [intOf]; omega
    · obtain ⟨e1, t1, hO, hV, hk⟩ := hr.out
      have hrest : rest = [] := by
        cases rest with
        | nil => rfl
        | cons x rest => have := t1.2.2.2.2.le; have := can_sz t1.2.1; omega
      subst hrest
      have haG : a = G := t1
      subst haG
      rw [List.append_nil] at e1
      subst e1
      have HF := Lib.hid (And.intro hO (And.intro hV hk))
      clear hr hO hV hk t1
      go_wp2_with fail
      go_ret2
      exact ⟨u6, rfl, HF.out⟩

/-- What every call of the document's space may ask of its words and types. -/
structure Fit (x : World) (B : Option Addr) (l : List Ty) (ws : List Int) (cs : List Cel) : Prop where
  short : ws.length ≤ 65536
  wm : Wm ws
  types : Tb.Seen x B l
  ok : ∀ t ∈ l, t.ok ∧ t.fit
  few : l.length ≤ 64
  tiled : Tiled ws l 0 cs (gran ws)
theorem Fit.keep0 {x y : World} {B : Option Addr} {l : List Ty} {ws : List Int} {cs : List Cel} (h : Fit x B l ws cs) (k : Kept [] x y) : Fit y B l ws cs := ⟨h.short, h.wm, h.types.keep0 k, h.ok, h.few, h.tiled⟩
theorem Fit.most {x : World} {B : Option Addr} {l : List Ty} {ws : List Int} {cs : List Cel} (h : Fit x B l ws cs) : cs.length ≤ 32768 := by
  have hs := h.short
  rcases (h.tiled.scans (Int.le_refl _)).length (Int.le_refl _) with k | k
  · omega
  · subst k; simp
set_option maxRecDepth 100000 in
set_option maxHeartbeats 1000000 in
theorem all_ok {x : World} {r q cap : Nat} {B : Option Addr} {d : Nat} {l : List Ty} {ws : List Int} {cs : List Cel} (h : DSp x r q cap B d l ws) (hf : Fit x B l ws cs) :
    Calls Tryz.prog 10 #[.pointer (some ⟨r, 0, none⟩)] x fun e y => ∃ v, e = .returned v ∧ Own y v cs ∧ FreshV x v ∧ Kept [] x y := by
  have HC : Hid (∀ y : World, Kept [] x y → Calls Tryz.prog 47 #[.slice (some ⟨q, 0, none⟩) ws.length cap, .slice B l.length d] y fun e w' => ∃ v, e = .returned (.tuple #[v, .bool true]) ∧ Hid (Own w' v cs ∧ FreshV x v ∧ Kept [] x w') ∧ w'.cell? ⟨r, 0, none⟩ = some (.slice (some ⟨q, 0, none⟩) ws.length cap) ∧ w'.cell? ⟨r, 1, none⟩ = some (.slice B l.length d)) :=
    Lib.hid fun y k => (dcells_ok (c := cap) (d := d) (h.row.seen.keep0 k) hf.short (wds_of hf.wm) (hf.types.keep0 k) hf.ok (by have := hf.few; omega) cs hf.tiled).mono fun e z ⟨v, he, hO, hV, hk⟩ =>
      ⟨v, he, Lib.hid ⟨hO, hV.imp id fun ⟨b, hb, hl⟩ => ⟨b, hb, Nat.le_trans k.more hl⟩, k.trans hk⟩, (h.keep0 (k.trans hk)).cells.1, (h.keep0 (k.trans hk)).cells.2.1⟩
  obtain ⟨c0, c1, f0⟩ := h.cells
  have hx0 : Kept [] x x := Kept.refl _ _
  clear h hf
  generalize ws.length = L at *
  generalize l.length = M at *
  go_enter Tryz.func10, Tryz.ntmps10
  go_wp2_with fail
  go_region_held3 (fun y => y.cell? ⟨r, 0, none⟩ = some (.slice (some ⟨q, 0, none⟩) L cap) ∧ y.cell? ⟨r, 1, none⟩ = some (.slice B M d)) (go_keep)
    (first
      | (go_at_call 47; refine (HC.out _ ?_).mono ?_; (first | exact hx0 | exact hx0.drewN _ | exact hx0.drew); rintro e z1 ⟨v, rfl, hO, r0, r1⟩))
  all_goals
    clear r0 r1 c0 c1 f0 HC hx0
    go_wp2_with fail
    go_ret
    exact ⟨v, rfl, hO.out⟩
end Go.Proofs.YtagmmbkgjomdlaaGreatDoor.Sp

/-
  The contract of the document's Drop.
-/
namespace Go.Proofs.YtagmmbkgjomdlaaGreatDoor.Sp
open Go.RowKit Go.Proofs.YtagmmbkgjomdlaaGreatDoor.Ar Go.Proofs.YtagmmbkgjomdlaaGreatDoor.Sh
open Go.Proofs.YtagmmbkgjomdlaaGreatDoor.Hd (Hd Fields encW gapH errH cells4 free4 ofL of_facts)
open Go.Proofs.YtagmmbkgjomdlaaGreatDoor.Tb (Ty sizeE sizeT)
set_option linter.unusedVariables false
theorem objAt_at {cs : List Cel} {j : Nat} (hj : j < cs.length) {ws : List Int} {l : List Ty} {e g : Int} (hT : Tiled ws l 0 cs e) (ha : (cs.getD j Cel.zero).a = g) (ht : (cs.getD j Cel.zero).h.tg = 1) :
    objAt [] cs g = some ((cs.take j).reverse, cs.getD j Cel.zero, cs.drop (j + 1)) ∧ 0 ≤ fromR (cs.take j).reverse g ∧ fromR (cs.take j).reverse g ≤ g ∧ g + (cs.getD j Cel.zero).h.sz ≤ toR (cs.drop (j + 1)) (g + (cs.getD j Cel.zero).h.sz) ∧ toR (cs.drop (j + 1)) (g + (cs.getD j Cel.zero).h.sz) ≤ e := by
  have hs : cs = cs.take j ++ cs.getD j Cel.zero :: cs.drop (j + 1) := by rw [← cel_drop hj, List.take_append_drop]
  have hT' := hT
  rw [hs] at hT'
  obtain ⟨m, t1, t2⟩ := Tiled.split hT'
  have hm : (cs.getD j Cel.zero).a = m := t2.1
  have hmg : m = g := by omega
  subst hmg
  have h1 : objAt [] cs m = some ((cs.take j).reverse, cs.getD j Cel.zero, cs.drop (j + 1)) := by
    have h2 := objAt_some (A := []) hT' ha ht
    rw [List.append_nil] at h2
    exact (congrArg (fun z => objAt [] z m) hs).trans h2
  obtain ⟨A1, A2, m1, _, _, _, u1, u2, u3⟩ := fromR_cut (A := (cs.take j).reverse) (by rw [List.reverse_reverse]; exact t1)
  obtain ⟨B1, B2, m2, _, _, _, v1, v2, v3⟩ := toR_cut t2.2.2.2.2
  refine ⟨h1, ?_, ?_, ?_, ?_⟩
  · rw [u3]; exact u1.le
  · rw [u3]; exact u2.le
  · rw [v3]; exact v1.le
  · rw [v3]; exact v2.le
theorem tag_b {P : Prop} [Decidable P] (hp : P) (z : Int) : (z != 1) = decide (P ∧ z ≠ 1) := by
  by_cases h : z = 1
  · subst h; simp
  · have h1 : (z != 1) = true := by rw [bne_iff_ne]; exact h
    rw [h1, decide_eq_true ⟨hp, h⟩]
section
variable {x : World} {r q cap : Nat} {B : Option Addr} {d : Nat} {l : List Ty} {ws : List Int} {cs : List Cel}
set_option maxRecDepth 100000 in
set_option maxHeartbeats 8000000 in
theorem sdrop_ok (h : DSp x r q cap B d l ws) (hf : Fit x B l ws cs) (g : Int) (g0 : -9223372036854775808 ≤ g) (g1 : g ≤ 9223372036854775807) :
    Calls Tryz.prog 42 #[.pointer (some ⟨r, 0, none⟩), .int .i64 g] x fun e y => e = .returned (.int .i64 (dropE cs g)) ∧ Doc x y r q B d l (dropX ws cs g) := by
  have hsh := hf.short
  have hgr : 0 ≤ gran ws ∧ gran ws ≤ 32768 := by unfold gran; omega
  have hmost := hf.most
  have HAl := Lib.hid (all_ok h hf)
  have HD := Lib.hid h
  have HT := Lib.hid hf.tiled
  have HAt := Lib.hid (fun (j : Nat) (hj : j < cs.length) => objAt_at (g := g) hj hf.tiled)
  have HNo := Lib.hid (fun (hn : ∀ c ∈ cs, c.h.tg = 1 → c.a ≠ g) => objAt_none (A := []) hn)
  have HDe : Hid (∀ A c B, objAt [] cs g = some (A, c, B) → dropE cs g = 0 ∧ dropX ws cs g = gapS ws (fromR A g) (toR B (g + c.h.sz))) := Lib.hid fun A c B e => by unfold dropE dropX; rw [e]; exact ⟨rfl, rfl⟩
  have HDn : Hid (objAt [] cs g = none → dropE cs g = 3 ∧ dropX ws cs g = ws) := Lib.hid fun e => by unfold dropE dropX; rw [e]; exact ⟨rfl, rfl⟩
  have HLay : Hid (∀ y, Kept [] x y → ∀ f e : Int, 0 ≤ f → f < e → e ≤ gran ws → Calls Tryz.prog 84 #[.pointer (some ⟨r, 0, none⟩), .int .i64 f, .int .i64 (e - f)] y fun e1 y1 => (∃ v, e1 = .returned v) ∧ Doc y y1 r q B d l (gapS ws f e)) := Lib.hid fun y k f e h1 h2 h3 => by
    have h4 := lay_ok (h.keep0 k) hf.short f (e - f) h1 (fun _ => by omega) (by omega)
    rw [show f + (e - f) = e by omega] at h4
    exact h4
  clear h hf
  generalize gran ws = G at *
  go_enter Tryz.func42, Tryz.ntmps42
  go_wp2_with fail
  refine HAl.out.mono ?_
  rintro e x2 ⟨v, rfl, hO, hV, k2⟩
  obtain ⟨Av, cv, rfl, _⟩ := back_own (Kept.refl [] _) hO
  have HSn := Lib.hid hO.seen
  have K2 := Lib.hid k2
  have H0 : Hid (∀ c ∈ cs.take 0, c.h.tg = 1 → c.a ≠ g) := Lib.hid (by simp)
  clear hO hV k2 HAl
  go_wp2_with fail
  go_loop [6] (fun t => ∃ j : Nat, t = .int .i64 (j : Int) ∧ j ≤ cs.length ∧ Hid (∀ c ∈ cs.take j, c.h.tg = 1 → c.a ≠ g)) (fun t => cs.length - (intOf t).toNat)
  case atStart => exact ⟨0, rfl, Nat.zero_le _, H0⟩
  case round =>
    obtain ⟨j, rfl, hj, hr⟩ := hrel
    clear H0
    by_cases hlt : j < cs.length
    · obtain ⟨g9, o9, rfl, hg9, c0, c1, c2, c3, c4⟩ := HSn.out.at j hlt _ rfl
      have hxm := cel_mem hlt
      have htk := cel_take hlt
      have hat := HAt.out j hlt
      generalize hx : cs.getD j Cel.zero = c at hxm htk hat c0 c1 c2 c3 c4
      obtain ⟨m1, m2, m3, m4, m5⟩ := HT.out.mem c hxm
      have hz := can_sz m3
      by_cases hyes : c.a = g ∧ c.h.tg = 1
      · obtain ⟨ha, ht⟩ := hyes
        obtain ⟨o1, o2, o3, o4, o5⟩ := hat ha ht
        obtain ⟨e1, e2⟩ := HDe.out _ _ _ o1
        obtain ⟨F, hF⟩ : ∃ F, fromR (cs.take j).reverse g = F := ⟨_, rfl⟩
        obtain ⟨T, hTo⟩ : ∃ T, toR (cs.drop (j + 1)) (g + c.h.sz) = T := ⟨_, rfl⟩
        rw [hF] at o2 o3
        rw [hTo] at o4 o5
        rw [hF, hTo] at e2
        have HE := Lib.hid (And.intro e1 e2)
        have hFT : F < T := by omega
        have HFF := Lib.hid hF
        have HTT := Lib.hid hTo
        have HL := Lib.hid (fun y k => HLay.out y k F T o2 hFT o5)
        clear hF hTo hr e1 e2 o1 htk m4 m5 m3 HDe HDn HNo HAt HLay hxm hx hat
        obtain ⟨xa, ⟨xt, xy, xl, xz⟩⟩ := c
        simp only at *
        subst ha ht
        go_wp2_with fail
        go_quiet (fail)
        have K3 := Lib.hid ((Kept.refl [] x2).drewN nq)
        generalize x2.drewN nq = x3 at *
        have HS3 := Lib.hid (HSn.out.keep0 K3.out)
        clear c0 c1 c2 c3 c4
        go_wp2_with fail
        go_loopw [7, 9] (fun f t wr => ∃ (m : Nat) (fv tv : Int), f = .int .i64 fv ∧ t = .int .i64 tv ∧ tv = (m : Int) - 1 ∧ m ≤ j ∧ Hid (fromR (cs.take m).reverse fv = F ∧ Kept [] x3 wr)) (fun _ t _ => (intOf t + 1).toNat)
        case atStart => exact ⟨j, _, _, rfl, rfl, by omega, Nat.le_refl _, Lib.hid ⟨HFF.out, Kept.refl _ _⟩⟩
        case round =>
          obtain ⟨m, fv, tv, rfl, rfl, htv, hm, hr⟩ := hrel
          go_upto_region 8 with fail
          go_cut [56] (fun vv wx => vv = .bool (decide (1 ≤ m ∧ (cs.getD (m - 1) Cel.zero).h.tg ≠ 1)) ∧ wx = wr)
          case first =>
            cases m with
            | zero =>
              have hge : decide (tv ≥ 0) = false := decide_eq_false (by omega)
              have hge2 : decide (0 ≤ tv) = false := decide_eq_false (by omega)
              have hd : Hid (decide (1 ≤ 0 ∧ (cs.getD (0 - 1) Cel.zero).h.tg ≠ 1) = false) := Lib.hid (decide_eq_false (by omega))
              clear hr htv
              go_wp2_with fail
              go_meet
              case rel => exact ⟨by rw [hd.out], rfl⟩
            | succ m =>
              obtain rfl : tv = (m : Int) := by omega
              clear htv
              have hml : m < cs.length := by omega
              obtain ⟨g8, o8, e8, _, b0, b1, b2, b3, b4⟩ := (HS3.out.keep0 hr.out.2).at m hml _ rfl
              injection e8 with e8
              injection e8 with e8 e9
              subst e8 e9
              obtain ⟨tb, hb1, hb2⟩ : ∃ b : Bool, ((cs.getD m Cel.zero).h.tg != 1) = b ∧ decide (1 ≤ m + 1 ∧ (cs.getD (m + 1 - 1) Cel.zero).h.tg ≠ 1) = b := ⟨_, rfl, (tag_b (by omega) _).symm⟩
              have hge : decide ((m : Int) ≥ 0) = true := decide_eq_true (by omega)
              have hge2 : decide (0 ≤ (m : Int)) = true := decide_eq_true (by omega)
              have hd := Lib.hid hb2
              clear hr hb2
              generalize (cs.getD m Cel.zero).h.tg = zt at *
              cases tb
              all_goals
                go_wp2_with fail
                go_meet
                case rel => exact ⟨by rw [hd.out], rfl⟩
          case rest =>
            obtain ⟨rfl, rfl⟩ := hcut
            by_cases hgo : 1 ≤ m ∧ (cs.getD (m - 1) Cel.zero).h.tg ≠ 1
            · rw [decide_eq_true hgo]
              obtain ⟨m, rfl⟩ : ∃ m', m = m' + 1 := ⟨m - 1, by omega⟩
              obtain rfl : tv = (m : Int) := by omega
              clear htv
              have hml : m < cs.length := by omega
              obtain ⟨g8, o8, e8, _, b0, b1, b2, b3, b4⟩ := (HS3.out.keep0 hr.out.2).at m hml _ rfl
              injection e8 with e8
              injection e8 with e8 e9
              subst e8 e9
              have HN : Hid (fromR (cs.take m).reverse (cs.getD m Cel.zero).a = F ∧ Kept [] x3 wc) := Lib.hid ⟨by
                have h1 := hr.out.1
                rw [cel_take hml, List.reverse_append] at h1
                have h2 : fromR ((cs.getD m Cel.zero) :: (cs.take m).reverse) fv = F := h1
                unfold fromR at h2
                rw [if_neg (show ¬ (cs.getD m Cel.zero).h.tg = 1 from hgo.2)] at h2
                exact h2, hr.out.2⟩
              clear hr hgo
              generalize (cs.getD m Cel.zero).a = za at *
              go_wp2_with fail
              go_roundw
              case rel => exact ⟨m, za, _, rfl, rfl, rfl, by omega, HN⟩
              case measure => simp [intOf] <;> omega
            · rw [decide_eq_false hgo]
              have hfv : fv = F := by
                have h1 := hr.out.1
                cases m with
                | zero => exact h1
                | succ m =>
                  have ht1 : (cs.getD m Cel.zero).h.tg = 1 := Classical.byContradiction fun hh => hgo ⟨by omega, hh⟩
                  rw [cel_take (show m < cs.length by omega), List.reverse_append] at h1
                  have h2 : fromR ((cs.getD m Cel.zero) :: (cs.take m).reverse) fv = F := h1
                  unfold fromR at h2
                  rw [if_pos ht1] at h2
                  exact h2
              subst hfv
              have K4 := Lib.hid (K3.out.trans hr.out.2)
              have HS4 := Lib.hid (HS3.out.keep0 hr.out.2)
              clear hr hgo HS3 HFF htv hm
              go_wp2_with fail
              go_loopw [8, 10] (fun f t wr => ∃ (m : Nat) (tv : Int), f = .int .i64 tv ∧ t = .int .i64 (m : Int) ∧ j + 1 ≤ m ∧ m ≤ cs.length ∧ Hid (toR (cs.drop m) tv = T ∧ Kept [] x2 wr)) (fun _ t _ => (cs.length - (intOf t).toNat))
              case atStart => exact ⟨j + 1, _, rfl, by go_num, Nat.le_refl _, by omega, Lib.hid ⟨HTT.out, K4.out⟩⟩
              case round =>
                obtain ⟨m, tw, rfl, rfl, hm1, hm2, hr⟩ := hrel
                go_upto_region 12 with fail
                go_cut [78] (fun vv wx => vv = .bool (decide (m < cs.length ∧ (cs.getD m Cel.zero).h.tg ≠ 1)) ∧ wx = wr)
                case first =>
                  by_cases hml : m < cs.length
                  · obtain ⟨g8, o8, e8, _, b0, b1, b2, b3, b4⟩ := (HSn.out.keep0 hr.out.2).at m hml _ rfl
                    injection e8 with e8
                    injection e8 with e8 e9
                    subst e8 e9
                    obtain ⟨tb, hb1, hb2⟩ : ∃ b : Bool, ((cs.getD m Cel.zero).h.tg != 1) = b ∧ decide (m < cs.length ∧ (cs.getD m Cel.zero).h.tg ≠ 1) = b := ⟨_, rfl, (tag_b hml _).symm⟩
                    have hd := Lib.hid hb2
                    clear hr hb2
                    generalize (cs.getD m Cel.zero).h.tg = zt at *
                    cases tb
                    all_goals
                      go_wp2_with fail
                      go_meet
                      case rel => exact ⟨by rw [hd.out], rfl⟩
                  · have hd : Hid (decide (m < cs.length ∧ (cs.getD m Cel.zero).h.tg ≠ 1) = false) := Lib.hid (decide_eq_false (fun h => hml h.1))
                    clear hr
                    go_wp2_with fail
                    go_meet
                    case rel => exact ⟨by rw [hd.out], rfl⟩
                case rest =>
                  obtain ⟨rfl, rfl⟩ := hcut
                  by_cases hgo : m < cs.length ∧ (cs.getD m Cel.zero).h.tg ≠ 1
                  · rw [decide_eq_true hgo]
                    obtain ⟨hml, hgt⟩ := hgo
                    obtain ⟨g8, o8, e8, _, b0, b1, b2, b3, b4⟩ := (HSn.out.keep0 hr.out.2).at m hml _ rfl
                    injection e8 with e8
                    injection e8 with e8 e9
                    subst e8 e9
                    obtain ⟨y1, y2, y3, _⟩ := HT.out.mem _ (cel_mem hml)
                    have hyz := can_sz y3
                    have HN : Hid (toR (cs.drop (m + 1)) ((cs.getD m Cel.zero).a + (cs.getD m Cel.zero).h.sz) = T ∧ Kept [] x2 wc) := Lib.hid ⟨by
                      have h1 := hr.out.1
                      rw [cel_drop hml] at h1
                      unfold toR at h1
                      rw [if_neg hgt] at h1
                      exact h1, hr.out.2⟩
                    clear hr hgt y3
                    generalize cs.getD m Cel.zero = zc at *
                    obtain ⟨za, ⟨zt, zy, zl, zz⟩⟩ := zc
                    simp only at *
                    go_wp2_with fail
                    go_quiet (fail)
                    have HN2 : Hid (toR (cs.drop (m + 1)) (za + zz) = T ∧ Kept [] x2 (wc.drewN nq)) := Lib.hid ⟨HN.out.1, HN.out.2.drewN _⟩
                    clear b0 b1 b2 b3 b4
                    go_wp2_with fail
                    go_roundw
                    case rel => exact ⟨m + 1, za + zz, rfl, by go_num, by omega, by omega, HN2⟩
                    case measure => simp [intOf] <;> omega
                  · rw [decide_eq_false hgo]
                    have htw : tw = T := by
                      have h1 := hr.out.1
                      by_cases hml : m < cs.length
                      · have ht1 : (cs.getD m Cel.zero).h.tg = 1 := Classical.byContradiction fun hh => hgo ⟨hml, hh⟩
                        rw [cel_drop hml] at h1
                        unfold toR at h1
                        rw [if_pos ht1] at h1
                        exact h1
                      · rw [List.drop_eq_nil_of_le (by omega)] at h1
                        exact h1
                    subst htw
                    have HL5 := Lib.hid (HL.out _ (K2.out.trans hr.out.2))
                    have K5 := Lib.hid (K2.out.trans hr.out.2)
                    clear hr hgo HS4 HTT K4 HL
                    go_wp2_with fail
                    refine HL5.out.mono ?_
                    rintro e y ⟨⟨v9, rfl⟩, q', cap', h7, hq', k7⟩
                    have HEnd : Hid (Doc x y r q B d l (gapS ws fv tw)) := Lib.hid ⟨q', cap', h7, hq'.imp id (fun hh => Nat.le_trans K5.out.more hh), (K5.out.none _).trans k7⟩
                    clear h7 hq' k7 HL5
                    go_wp2_with fail
                    go_ret
                    exact ⟨ret_int HE.out.1.symm, by rw [HE.out.2]; exact HEnd.out⟩
      · have HN : Hid (∀ c ∈ cs.take (j + 1), c.h.tg = 1 → c.a ≠ g) := Lib.hid fun e he => by
          rw [htk] at he
          rcases List.mem_append.1 he with he | he
          · exact hr.out e he
          · rw [List.mem_singleton.1 he]
            exact fun h1 h2 => hyes ⟨h2, h1⟩
        clear hr htk m3 m4 m5 HDe HDn HNo HAt HLay hxm hx hat
        obtain ⟨xa, ⟨xt, xy, xl, xz⟩⟩ := c
        simp only at *
        by_cases ha : xa = g
        · subst ha
          have hb : (xt != 1) = true := by rw [bne_iff_ne]; exact fun h => hyes ⟨rfl, h⟩
          clear hyes
          go_wp2_with fail
          go_round
          case rel => exact ⟨j + 1, by go_num, by omega, HN⟩
          case measure => simp [intOf] <;> omega
        · have hb : (xa != g) = true := by rw [bne_iff_ne]; exact ha
          clear hyes ha
          go_wp2_with fail
          go_round
          case rel => exact ⟨j + 1, by go_num, by omega, HN⟩
          case measure => simp [intOf] <;> omega
    · obtain rfl : j = cs.length := by omega
      have hn := hr.out
      rw [List.take_length] at hn
      obtain ⟨e1, e2⟩ := HDn.out (HNo.out hn)
      have HE := Lib.hid (And.intro e1 e2)
      clear hr hn e1 e2
      go_wp2_with fail
      go_ret
      exact ⟨ret_int HE.out.1.symm, by rw [HE.out.2]; exact Doc.same HD.out K2.out⟩
end
end Go.Proofs.YtagmmbkgjomdlaaGreatDoor.Sp

/-
  The contract of the document's Make where there is room: the words lie in a block of their own.
-/
namespace Go.Proofs.YtagmmbkgjomdlaaGreatDoor.Sp
open Go.RowKit Go.Proofs.YtagmmbkgjomdlaaGreatDoor.Ar Go.Proofs.YtagmmbkgjomdlaaGreatDoor.Sh
open Go.Proofs.YtagmmbkgjomdlaaGreatDoor.Hd (Hd Fields encW errH ofL dof_row dencode_ok cells4 free4 of_facts can_obj errH_yes)
open Go.Proofs.YtagmmbkgjomdlaaGreatDoor.Tb (Ty sizeE sizeT)
set_option linter.unusedVariables false
section
variable {w : World}
set_option maxRecDepth 100000 in
set_option maxHeartbeats 4000000 in
theorem dmake_yes {A B : Option Addr} {c d : Nat} {ws : List Int} {l : List Ty} (hn : A = none → c = 0) (hS : Ar.Seen w A ws) (hlc : ws.length ≤ c) (hl : ws.length ≤ 65536) (hL : Tb.Seen w B l) (hok : ∀ x ∈ l, x.ok ∧ x.fit) (hlen : l.length ≤ 64) (g i n : Int) (i0 : -9223372036854775808 ≤ i) (i1 : i ≤ 9223372036854775807)
    (he : sizeE l i n = 0) (g0 : 0 ≤ g) (hroomy : (ofL l i n).sz ≤ (ws.length : Int) / 2 - g) :
    Calls Tryz.prog 86 #[.slice A ws.length c, .slice B l.length d, .int .i64 g, .int .i64 i, .int .i64 n] w fun e w' => ∃ gb cap, e = .returned (.tuple #[.slice (some ⟨gb, 0, none⟩) ws.length cap, .int .i64 0]) ∧ Sh.Lay w' gb (makeW ws l g i n) ∧ ws.length ≤ cap ∧ w.heap.size ≤ gb ∧ Kept [] w w' := by
  have HO := Lib.hid (fun y (k : Kept [] w y) => dof_row (c := d) (hL.keep0 k) hok (by omega) i n i0 i1)
  have ed : (ws.length : Int).tdiv 2 = (ws.length : Int) / 2 := Int.tdiv_eq_ediv_of_nonneg (by omega)
  obtain ⟨sz, ho, s1, s2, i2, i3, n1, n2⟩ := of_facts he hlen
  have hcan : (Hd.Hd.mk 1 i n sz).can := can_obj (by omega) (by omega) (by omega) (by omega) (by omega) (by omega)
  have okH : (Hd.Hd.mk 1 i n sz).ok := by constructor <;> simp <;> omega
  have HN : Hid (∀ y : World, Has (y.alloc (.cells #[.int .u8 1, .int .i64 i, .int .i64 n, .int .i64 sz] 76)) y.heap.size 76 [.int .u8 1, .int .i64 i, .int .i64 n, .int .i64 sz]) := Lib.hid fun y => Has.new y _ _
  rw [he, ho] at HO
  rw [ho] at hroomy
  have hc : inG ws.length g sz = true := (inG_iff _ _ _).2 ⟨g0, hroomy⟩
  have hE : makeE ws.length l g i n = if inG ws.length g sz then 0 else 2 := by unfold makeE; rw [if_neg (by simpa using he), ho]
  have hM : makeW ws l g i n = if (if inG ws.length g sz then (0 : Int) else 2) = 0 then layG ws g (encW ⟨1, i, n, sz⟩) sz else ws := by unfold makeW; rw [hE, ho]
  rw [hM]
  rw [hc]
  clear hE hM hroomy g0
  unfold Hd.val at HO
  simp only at HO
  obtain ⟨j0, j1⟩ := (inG_iff _ _ _).1 hc
  have HEn := Lib.hid (fun (y : World) => dencode_ok (w := y) ⟨1, i, n, sz⟩ okH)
  rw [errH_yes hcan] at HEn
  obtain ⟨m, rfl⟩ := Int.eq_ofNat_of_zero_le j0
  obtain ⟨z, rfl⟩ := Int.eq_ofNat_of_zero_le (show 0 ≤ sz by omega)
  generalize hu : encW ⟨1, i, n, (z : Int)⟩ = u at *
  simp only [if_true]
  have hne : ws ≠ [] := by
    rintro rfl
    simp at j1
    omega
  have hroom : 2 * m + 2 * z ≤ ws.length := by omega
  have hlay : Hid (layG ws (m : Int) u (z : Int) = (putW ws (2 * m) (List.replicate (2 * z) 0)).set (2 * m) u) := Lib.hid (by
    unfold layG
    obtain ⟨k, hk⟩ : ∃ k, 2 * z = k + 1 := ⟨2 * z - 1, by omega⟩
    rw [hk, lay_head _ _ _ _ (by omega), show (2 * (m : Int)).toNat = 2 * m by omega, show (2 * (z : Int) - 1).toNat = k by omega])
  have hll : Hid ((layG ws (m : Int) u (z : Int)).length = ws.length) := Lib.hid (by rw [hlay.out, List.length_set, putW_length _ _ _ (by rw [List.length_replicate]; omega)])
  have hstep : Hid (∀ j, j < 2 * z → (putW ws (2 * m) (List.replicate j 0)).set (2 * m + j) 0 = putW ws (2 * m) (List.replicate (j + 1) 0)) := Lib.hid fun j hj => replicate_step ws (2 * m) j 0 (by omega)
  have hpl : Hid (∀ j, j ≤ 2 * z → (putW ws (2 * m) (List.replicate j 0)).length = ws.length) := Lib.hid fun j hj => putW_length _ _ _ (by rw [List.length_replicate]; omega)
  have hp0 : Hid (putW ws (2 * m) (List.replicate 0 0) = ws) := Lib.hid (putW_none ws (2 * m))
  have HS := Lib.hid hS
  have HNn := Lib.hid hn
  have HNe := Lib.hid hne
  clear hS hL ho okH hcan he hc hn hne
  obtain ⟨L, hLL⟩ : ∃ L, L = ws.length := ⟨_, rfl⟩
  rw [← hLL] at hlc hl ed j1 hroom hpl hll ⊢
  have HLL := Lib.hid hLL
  clear hLL
  unfold Hd.val at HEn
  simp only at HEn
  go_enter Tryz.func86, Tryz.ntmps86
  go_wp2_with fail
  refine (HO.out _ (Kept.refl [] w)).mono ?_
  rintro e x1 ⟨rfl, k1⟩
  have K1 := Lib.hid (k1.alloc (.cells #[.int .u8 1, .int .i64 i, .int .i64 n, .int .i64 (z : Int)] 76))
  have b1 := HN.out x1
  obtain ⟨c0, c1, c2, c3⟩ := cells4 b1
  have HB1 := Lib.hid b1
  have Hge := Lib.hid k1.more
  clear k1 b1 HO HN
  have HS1 := Lib.hid (HS.out.keep0 K1.out)
  generalize hy1 : x1.alloc (.cells #[.int .u8 1, .int .i64 i, .int .i64 n, .int .i64 (z : Int)] 76) = y1 at *
  generalize hhb : x1.heap.size = hb at *
  go_wp2_with (at_builtin; (refine append_words rfl (.const (.slice none 0 0)) (.tmp 47) rfl (.slice none 0 0) [] rfl (Ar.Own.nil _) A L c ws rfl HLL.out.symm HNn.out HS1.out (show 0 + L ≤ 1073741824 by omega) ?_))
  intro v2 x2 hO2 hG2 hB2
  have hK2 : Kept [] y1 x2 := own_grown (Kept.refl [] y1) (.inl rfl) hG2
  have hF2 := own_fresh (Kept.refl [] y1) (.inl rfl) hB2
  obtain ⟨gb, cap, rfl, hcap, hlay2⟩ := lay_of_own hO2 HNe.out
  have hgb : y1.heap.size ≤ gb := by
    rcases hF2 with h | ⟨b, h, hle⟩
    · cases h
    · injection h with h
      rw [show gb = b from h]; exact hle
  rw [← HLL.out] at hcap ⊢
  have b2 := HB1.out.keep0 hK2
  have hbg : hb ≠ gb := by have := HB1.out.lt; omega
  have HB2 := Lib.hid b2
  have HK2 := Lib.hid hK2
  have HLy2 := Lib.hid hlay2
  have Hgb := Lib.hid hgb
  have Hbg := Lib.hid hbg
  clear hO2 hG2 hB2 hK2 hF2 hlay2 b2 hgb HS1 HB1 c0 c1 c2 c3 hbg
  go_wp2_with fail
  go_loopw [15] (fun t wr => ∃ j : Nat, j ≤ 2 * z ∧ t = .int .i64 ((2 * m + j : Nat) : Int) ∧ Hid (Sh.Lay wr gb (putW ws (2 * m) (List.replicate j 0)) ∧ Kept [gb] x2 wr)) (fun t _ => 2 * m + 2 * z - (intOf t).toNat)
  case atStart => exact ⟨0, Nat.zero_le _, by simp, Lib.hid ⟨by rw [hp0.out]; exact HLy2.out, Kept.refl _ _⟩⟩
  case round =>
    obtain ⟨j, hj, rfl, hr⟩ := hrel
    obtain ⟨c0, c1, c2, c3⟩ := cells4 (HB2.out.kept hr.out.2 (by simpa using Hbg.out))
    by_cases hlt : j < 2 * z
    · have hc := hr.out.1.cell (2 * m + j) (by rw [hpl.out j hj]; omega)
      have hf := hr.out.1.free (2 * m + j)
      have hidx : 2 * m + j < L := by omega
      have hHN : Hid (Sh.Lay (wr.setCell ⟨gb, 2 * m + j, none⟩ (.int .u64 0)) gb (putW ws (2 * m) (List.replicate (j + 1) 0)) ∧ Kept [gb] x2 (wr.setCell ⟨gb, 2 * m + j, none⟩ (.int .u64 0))) := Lib.hid (by
        refine ⟨?_, hr.out.2.setCell _ _ (.inl (by simp))⟩
        rw [← hstep.out j hlt]
        exact hr.out.1.put _ _ (by rw [hpl.out j hj]; omega))
      clear hr
      go_wp2_with fail
      go_roundw
      case rel => exact ⟨j + 1, by omega, by go_num, hHN⟩
      case measure => simp [intOf]; omega
    · obtain rfl : j = 2 * z := by omega
      have hlay3 := hr.out.1
      have hk3 := hr.out.2
      have HL3 := Lib.hid hlay3
      have HK3 := Lib.hid hk3
      clear hr hlay3 hk3
      go_wp2_with fail
      refine (HEn.out _).mono ?_
      rintro e x4 ⟨rfl, k4⟩
      have hL4 := HL3.out.keep0 k4
      have hK4 := HK3.out.trans (k4.none _)
      have hc := hL4.cell (2 * m) (by rw [hpl.out _ (Nat.le_refl _)]; omega)
      have hf := hL4.free (2 * m)
      have hidx : 2 * m < L := by omega
      have hFin : Hid (Sh.Lay (x4.setCell ⟨gb, 2 * m, none⟩ (.int .u64 u)) gb (layG ws (m : Int) u (z : Int)) ∧ Kept [] w (x4.setCell ⟨gb, 2 * m, none⟩ (.int .u64 u))) := Lib.hid (by
        have k5 := hK4.setCell ⟨gb, 2 * m, none⟩ (.int .u64 u) (.inl (by simp))
        refine ⟨?_, ?_⟩
        · rw [hlay.out]
          exact hL4.put _ _ (by rw [hpl.out _ (Nat.le_refl _)]; omega)
        · refine (K1.out.trans HK2.out).forget k5 fun b hb => ?_
          obtain rfl := List.mem_singleton.1 hb
          have := K1.out.more
          have := Hgb.out
          omega)
      have hEnd := Lib.hid (And.intro hFin.out.1 (And.intro hcap (And.intro (Nat.le_trans K1.out.more Hgb.out) hFin.out.2)))
      clear hL4 hK4 k4 HL3 HK3
      go_wp2_with fail
      go_ret2
      exact ⟨gb, cap, rfl, hEnd.out⟩
end
end Go.Proofs.YtagmmbkgjomdlaaGreatDoor.Sp

/-
  The contract of the document's Put.
-/
namespace Go.Proofs.YtagmmbkgjomdlaaGreatDoor.Sp
open Go.RowKit Go.Proofs.YtagmmbkgjomdlaaGreatDoor.Ar Go.Proofs.YtagmmbkgjomdlaaGreatDoor.Sh
open Go.Proofs.YtagmmbkgjomdlaaGreatDoor.Hd (Hd Fields encW gapH errH cells4 free4 dof_row ofL of_facts)
open Go.Proofs.YtagmmbkgjomdlaaGreatDoor.Tb (Ty sizeE sizeT)
set_option linter.unusedVariables false
section
variable {x : World} {r q cap : Nat} {B : Option Addr} {d : Nat} {l : List Ty} {ws : List Int} {cs : List Cel}
theorem Fit.sized {g i n : Int} (hf : Fit x B l ws cs) : (makeW ws l g i n).length = ws.length := makeW_length hf.few
/-- The words that are laid where there is room. -/
theorem lay_two {y : World} {r q cap : Nat} (h : DSp y r q cap B d l ws) (hl : ws.length ≤ 65536) (f g e z : Int) (f0 : 0 ≤ f) (g0 : f ≤ g) (z0 : 1 ≤ z) (hz : g + z ≤ e) (he : e ≤ gran ws) :
    Calls Tryz.prog 84 #[.pointer (some ⟨r, 0, none⟩), .int .i64 f, .int .i64 (g - f)] y fun e1 y1 => (∃ v, e1 = .returned v) ∧ Hid (Kept [r] y y1) ∧ Hid (Calls Tryz.prog 84 #[.pointer (some ⟨r, 0, none⟩), .int .i64 (g + z), .int .i64 (e - g - z)] y1 fun e2 y2 => (∃ v, e2 = .returned v) ∧ Doc y y2 r q B d l (gapS (gapS ws f g) (g + z) e)) := by
  have hg : gran ws = (ws.length : Int) / 2 := rfl
  refine (lay_ok h hl f (g - f) f0 (fun _ => by omega) (by omega)).mono ?_
  rintro e1 y1 ⟨he1, q1, cap1, h1, hq1, k1⟩
  rw [show f + (g - f) = g by omega] at h1
  refine ⟨he1, Lib.hid k1, Lib.hid ?_⟩
  refine (lay_ok h1 (by rw [gapS_length]; exact hl) (g + z) (e - g - z) (by omega) (fun _ => by rw [gran_eq (gapS_length _ _ _)]; omega) (by omega)).mono ?_
  rintro e2 y2 ⟨he2, q2, cap2, h2, hq2, k2⟩
  rw [show g + z + (e - g - z) = e by omega] at h2
  refine ⟨he2, q2, cap2, h2, ?_, k1.trans k2⟩
  rcases hq2 with rfl | hq2
  · exact hq1
  · exact .inr (Nat.le_trans k1.more hq2)
set_option maxRecDepth 100000 in
set_option maxHeartbeats 4000000 in
theorem sput_ok (h : DSp x r q cap B d l ws) (hf : Fit x B l ws cs) (g i n : Int) (g0 : -9223372036854775808 ≤ g) (g1 : g ≤ 9223372036854775807) (i0 : -9223372036854775808 ≤ i) (i1 : i ≤ 9223372036854775807) :
    Calls Tryz.prog 40 #[.pointer (some ⟨r, 0, none⟩), .int .i64 g, .int .i64 i, .int .i64 n] x fun e y => e = .returned (.int .i64 (putE ws l cs g i n)) ∧ Doc x y r q B d l (putX ws l cs g i n) := by
  have HO := Lib.hid (dof_row (c := d) hf.types hf.ok (by have := hf.few; omega) i n i0 i1)
  have ed : (ws.length : Int).tdiv 2 = gran ws := Int.tdiv_eq_ediv_of_nonneg (by omega)
  have hsh := hf.short
  have hgr : 0 ≤ gran ws ∧ gran ws ≤ 32768 := by unfold gran; omega
  obtain ⟨c0, c1, f0⟩ := h.cells
  by_cases he : sizeE l i n = 0
  · obtain ⟨sz, ho, s1, s2, j0, j1, n0, n1⟩ := of_facts he hf.few
    have HN : Hid (∀ y : World, Has (y.alloc (.cells #[.int .u8 1, .int .i64 i, .int .i64 n, .int .i64 sz] 76)) y.heap.size 76 [.int .u8 1, .int .i64 i, .int .i64 n, .int .i64 sz]) := Lib.hid fun y => Has.new y _ _
    rw [ho, he] at HO
    unfold Hd.val at HO
    simp only at HO
    have HD := Lib.hid h
    by_cases hout : g < 0 ∨ gran ws ≤ g
    · obtain ⟨e1, e2⟩ := putE_far (cs := cs) he hout
      rw [e1, e2]
      clear h hf he ho e1 e2
      generalize hL : ws.length = L at *
      generalize l.length = M at *
      generalize gran ws = G at *
      by_cases hg : g < 0
      · clear hout
        go_enter Tryz.func40, Tryz.ntmps40
        go_wp2_with fail
        refine HO.out.mono ?_
        rintro e w1 ⟨rfl, k1⟩
        have K1 := Lib.hid (k1.alloc (.cells #[.int .u8 1, .int .i64 i, .int .i64 n, .int .i64 sz] 76))
        clear k1 HO HN
        go_wp2_with fail
        go_ret
        exact ⟨rfl, Doc.same HD.out K1.out⟩
      · have hge : G ≤ g := by omega
        clear hout
        go_enter Tryz.func40, Tryz.ntmps40
        go_wp2_with fail
        refine HO.out.mono ?_
        rintro e w1 ⟨rfl, k1⟩
        have K1 := Lib.hid (k1.alloc (.cells #[.int .u8 1, .int .i64 i, .int .i64 n, .int .i64 sz] 76))
        clear c0 c1 f0
        obtain ⟨c0, c1, f0⟩ := (HD.out.keep0 K1.out).cells
        rw [hL] at c0
        clear k1 HO HN
        go_wp2_with fail
        go_ret
        exact ⟨rfl, Doc.same HD.out K1.out⟩
    · have hin : 0 ≤ g ∧ g < gran ws := by omega
      have HAl := Lib.hid (fun y (k : Kept [] x y) => all_ok (h.keep0 k) (hf.keep0 k))
      have hmost := hf.most
      have HT := Lib.hid hf.tiled
      have HFull := Lib.hid (putE_full (ws := ws) (l := l) (cs := cs) (n := n) (i := i) he hin)
      have HRoom := Lib.hid (fun x => putE_room (ws := ws) (l := l) (cs := cs) (n := n) (i := i) (x := x) he hin)
      have hmw := Lib.hid (hf.sized (g := g) (i := i) (n := n))
      have HMk : Hid (∀ y, Kept [] x y → (ofL l i n).sz ≤ gran ws - g → Calls Tryz.prog 86 #[.slice (some ⟨q, 0, none⟩) ws.length cap, .slice B l.length d, .int .i64 g, .int .i64 i, .int .i64 n] y fun e z => ∃ gb cap, e = .returned (.tuple #[.slice (some ⟨gb, 0, none⟩) ws.length cap, .int .i64 0]) ∧ Sh.Lay z gb (makeW ws l g i n) ∧ ws.length ≤ cap ∧ y.heap.size ≤ gb ∧ Kept [] y z) :=
        Lib.hid fun y k hr => dmake_yes (fun h => by cases h) (h.row.seen.keep0 k) h.cap hf.short (hf.types.keep0 k) hf.ok hf.few g i n i0 i1 he hin.1 hr
      have HRm : Hid (∀ c : Cel, RoomP l g i n c ↔ c.h.tg ≠ 1 ∧ c.a ≤ g ∧ g < c.a + c.h.sz ∧ sz ≤ c.a + c.h.sz - g) := Lib.hid fun c => by unfold RoomP; rw [ho]
      have HPi : Hid (∀ c : Cel, putInto ws l c g i n = gapS (gapS (makeW ws l g i n) c.a g) (g + sz) (c.a + c.h.sz)) := Lib.hid fun c => by unfold putInto; rw [ho]
      rw [ho] at HMk
      have HGm := Lib.hid (gran_eq (hf.sized (g := g) (i := i) (n := n)))
      clear h hf he ho hout
      simp only at HMk
      generalize hL : ws.length = L at *
      generalize hM : l.length = M at *
      generalize gran ws = G at *
      generalize makeW ws l g i n = ws1 at *
      go_enter Tryz.func40, Tryz.ntmps40
      go_wp2_with fail
      refine HO.out.mono ?_
      rintro e w1 ⟨rfl, k1⟩
      have K1 := Lib.hid (k1.alloc (.cells #[.int .u8 1, .int .i64 i, .int .i64 n, .int .i64 sz] 76))
      have B1 := Lib.hid (HN.out w1)
      have hb1 : x.heap.size ≤ w1.heap.size := k1.more
      clear c0 c1 f0
      obtain ⟨c0, c1, f0⟩ := (HD.out.keep0 K1.out).cells
      rw [hL] at c0
      clear k1 HO HN
      go_wp2_with fail
      generalize w1.alloc (.cells #[.int .u8 1, .int .i64 i, .int .i64 n, .int .i64 sz] 76) = y1 at *
      generalize w1.heap.size = hb at *
      refine (HAl.out _ K1.out).mono ?_
      rintro e x2 ⟨v, rfl, hO, hV, k2⟩
      obtain ⟨Av, cv, rfl, _⟩ := back_own (Kept.refl [] _) hO
      have HSn := Lib.hid hO.seen
      have K2 := Lib.hid (K1.out.trans k2)
      have B2 := Lib.hid (B1.out.keep0 k2)
      have H0 : Hid ((∀ c ∈ cs.take 0, ¬ RoomP l g i n c) ∧ Kept [] x2 x2) := Lib.hid ⟨by simp, Kept.refl _ _⟩
      clear hO hV k2 B1 K1 HAl c0 c1 f0
      go_wp2_with fail
      go_loopw [12] (fun t wr => ∃ j : Nat, t = .int .i64 (j : Int) ∧ j ≤ cs.length ∧ Hid ((∀ c ∈ cs.take j, ¬ RoomP l g i n c) ∧ Kept [] x2 wr)) (fun t _ => cs.length - (intOf t).toNat)
      case atStart => exact ⟨0, rfl, Nat.zero_le _, H0⟩
      case round =>
        obtain ⟨j, rfl, hj, hr⟩ := hrel
        clear H0
        by_cases hlt : j < cs.length
        · obtain ⟨g9, o9, rfl, hg9, c0, c1, c2, c3, c4⟩ := (HSn.out.keep0 hr.out.2).at j hlt _ rfl
          have hxm := cel_mem hlt
          have htk := cel_take hlt
          have hcr := HRm.out (cs.getD j Cel.zero)
          generalize hx : cs.getD j Cel.zero = c at hxm htk hcr c0 c1 c2 c3 c4
          obtain ⟨m1, m2, m3, m4, m5⟩ := HT.out.mem c hxm
          have hz := can_sz m3
          have hHb := B2.out.keep0 hr.out.2
          have hNc : Has (wr.alloc (.cells #[.int .i64 c.a, .int .u8 c.h.tg, .int .i64 c.h.ty, .int .i64 c.h.ln, .int .i64 c.h.sz] 78)) wr.heap.size 78 [.int .i64 c.a, .int .u8 c.h.tg, .int .i64 c.h.ty, .int .i64 c.h.ln, .int .i64 c.h.sz] := Has.new wr _ _
          by_cases hroom : RoomP l g i n c
          · have hro : roomO l cs g i n = some c := by
              unfold roomO
              rw [← List.take_append_drop j cs, List.find?_append, List.find?_eq_none.2 (fun d hd => by simpa using hr.out.1 d hd), cel_drop hlt, hx]
              simp [hroom]
            obtain ⟨e1, e2⟩ := HRoom.out c hro
            have HE := Lib.hid (And.intro e1 (e2.trans (HPi.out c)))
            obtain ⟨r1, r2, r3, r4⟩ := hcr.1 hroom
            have HM := Lib.hid (fun y k => HMk.out y k (show sz ≤ G - g by omega))
            clear e1 e2 hro hroom hcr htk m3 m4 m5 HT HFull HRoom HRm HPi HMk hxm hx
            obtain ⟨xa, ⟨xt, xy, xl, xz⟩⟩ := c
            simp only at *
            have ht : (xt == 1) = false := by simpa using r1
            have K3 := Lib.hid (((K2.out.trans hr.out.2).alloc (.cells #[.int .i64 xa, .int .u8 xt, .int .i64 xy, .int .i64 xl, .int .i64 xz] 78)))
            have B3 := Lib.hid (hHb.alloc (.cells #[.int .i64 xa, .int .u8 xt, .int .i64 xy, .int .i64 xl, .int .i64 xz] 78))
            have C3 := Lib.hid hNc
            clear hr r1 hHb hNc HSn
            have K9 := K3.out
            obtain ⟨b0, b1, b2, b3⟩ := cells4 B3.out
            obtain ⟨d0, d1, d2, d3, d4⟩ := cells5 C3.out
            go_wp2_with fail
            generalize wr.alloc (.cells #[.int .i64 xa, .int .u8 xt, .int .i64 xy, .int .i64 xl, .int .i64 xz] 78) = y3 at *
            generalize wr.heap.size = cb at *
            have hx0 : Kept [] y3 y3 := Kept.refl _ _
            have hD3 := HD.out.keep0 K3.out
            obtain ⟨c0', c1', f0'⟩ := hD3.cells
            rw [hL] at c0'
            rw [hM] at c1'
            have HM2 : Hid (∀ y, Kept [] y3 y → Calls Tryz.prog 86 #[.slice (some ⟨q, 0, none⟩) L cap, .slice B M d, .int .i64 g, .int .i64 i, .int .i64 n] y fun e z => ∃ gb cap2, e = .returned (.tuple #[.slice (some ⟨gb, 0, none⟩) L cap2, .int .i64 0]) ∧ Hid (Sh.Lay z gb ws1 ∧ L ≤ cap2 ∧ y3.heap.size ≤ gb ∧ Kept [] y3 z) ∧ z.cell? ⟨r, 0, none⟩ = some (.slice (some ⟨q, 0, none⟩) L cap) ∧ z.cell? ⟨r, 1, none⟩ = some (.slice B M d)) :=
              Lib.hid fun y k => (HM.out y (K3.out.trans k)).mono fun e z ⟨gb, cap2, he, h1, h2, h3, h4⟩ => ⟨gb, cap2, he, Lib.hid ⟨h1, h2, Nat.le_trans k.more h3, k.trans h4⟩, by rw [← hL]; exact (hD3.keep0 (k.trans h4)).cells.1, by rw [← hM]; exact (hD3.keep0 (k.trans h4)).cells.2.1⟩
            clear HM c0 c1 c2 c3 c4 b0 b1 b2 b3 d0 d1 d2 d3 d4 K9 hD3
            go_region_held3 (fun y => y.cell? ⟨r, 0, none⟩ = some (.slice (some ⟨q, 0, none⟩) L cap) ∧ y.cell? ⟨r, 1, none⟩ = some (.slice B M d)) (go_keep)
              (first
                | (go_at_call 86; refine (HM2.out _ ?_).mono ?_; (first | exact hx0 | exact hx0.drewN _ | exact hx0.drew); rintro e z1 ⟨gb, cap2, rfl, hM1, r0, r1⟩))
            all_goals
              obtain ⟨M1, M2, M3, M4⟩ := hM1.out
              have hD4 := HD.out.keep0 (K3.out.trans M4)
              have f4 := hD4.cells.2.2
              have HQ := Lib.hid (And.intro M1 (And.intro M2 (And.intro M3 M4)))
              have hD5 : DSp (z1.setCell ⟨r, 0, none⟩ (.slice (some ⟨gb, 0, none⟩) L cap2)) r gb cap2 B d l ws1 := by
                have hrg : r ≠ gb := by have := HD.out.head.lt; have := K3.out.more; omega
                refine ⟨?_, ?_, by rw [hmw.out]; exact M2⟩
                · rw [hmw.out]
                  have := hD4.head.put 0 (.slice (some ⟨gb, 0, none⟩) L cap2)
                  exact this
                · obtain ⟨rest, hr⟩ := M1
                  exact ⟨rest, hr.beside _ (Ne.symm hrg) _⟩
              have hK5 : Kept [r] y3 (z1.setCell ⟨r, 0, none⟩ (.slice (some ⟨gb, 0, none⟩) L cap2)) := (M4.none _).setCell _ _ (.inl (by simp))
              have HL2 := Lib.hid (lay_two hD5 (by rw [hmw.out]; omega) xa g (xa + xz) sz (by omega) (by omega) (by omega) (by omega) (by rw [HGm.out]; omega))
              have hD3' := HD.out.keep0 K3.out
              have hnr : hb ≠ r := Has.block_type B3.out hD3'.head (by decide)
              have hcr : cb ≠ r := Has.block_type C3.out hD3'.head (by decide)
              have hB5 := (B3.out.keep0 M4).beside ⟨r, 0, none⟩ hnr (.slice (some ⟨gb, 0, none⟩) L cap2)
              have hC5 := (C3.out.keep0 M4).beside ⟨r, 0, none⟩ hcr (.slice (some ⟨gb, 0, none⟩) L cap2)
              obtain ⟨b0, b1, b2, b3⟩ := cells4 hB5
              obtain ⟨d0, d1, d2, d3, d4⟩ := cells5 hC5
              have HB5 := Lib.hid hB5
              have HC5 := Lib.hid hC5
              have HK5 := Lib.hid hK5
              have Hgb := Lib.hid M3
              clear M1 M2 M3 M4 hD4 hD5 hK5 hM1 HQ hD3' hB5 hC5 HM2 hx0
              go_wp2_with fail
              generalize z1.setCell ⟨r, 0, none⟩ (.slice (some ⟨gb, 0, none⟩) L cap2) = y5 at *
              refine HL2.out.mono ?_
              rintro e5 y6 ⟨⟨v5, rfl⟩, hk6, hL6⟩
              have hB6 := HB5.out.kept hk6.out (by simpa using hnr)
              have hC6 := HC5.out.kept hk6.out (by simpa using hcr)
              clear b0 b1 b2 b3 d0 d1 d2 d3 d4 HB5 HC5 HL2 hk6
              obtain ⟨b0, b1, b2, b3⟩ := cells4 hB6
              obtain ⟨d0, d1, d2, d3, d4⟩ := cells5 hC6
              clear hB6 hC6
              go_wp2_with fail
              refine hL6.out.mono ?_
              rintro e6 y7 ⟨⟨v6, rfl⟩, q', cap', h7, hq', k7⟩
              have HEnd : Hid (Doc x y7 r q B d l (gapS (gapS ws1 xa g) (g + sz) (xa + xz))) := Lib.hid ⟨q', cap', h7, .inr (by have := K3.out.more; have := HK5.out.more; have := Hgb.out; rcases hq' with rfl | hq' <;> omega), ((K3.out.none _).trans HK5.out).trans k7⟩
              clear h7 hq' k7 hL6
              go_wp2_with fail
              go_ret
              exact ⟨ret_int HE.out.1.symm, by rw [HE.out.2]; exact HEnd.out⟩
          · have HN : Hid ((∀ c ∈ cs.take (j + 1), ¬ RoomP l g i n c) ∧ Kept [] x2 (wr.alloc (.cells #[.int .i64 c.a, .int .u8 c.h.tg, .int .i64 c.h.ty, .int .i64 c.h.ln, .int .i64 c.h.sz] 78))) := Lib.hid ⟨fun e he => by
                rw [htk] at he
                rcases List.mem_append.1 he with he | he
                · exact hr.out.1 e he
                · rw [List.mem_singleton.1 he]; exact hroom, hr.out.2.alloc _⟩
            have hno : c.h.tg = 1 ∨ (c.h.tg ≠ 1 ∧ (g < c.a ∨ (¬ g < c.a ∧ (c.a + c.h.sz ≤ g ∨ (g < c.a + c.h.sz ∧ c.a + c.h.sz - g < sz))))) := by
              by_cases k1 : c.h.tg = 1
              · exact .inl k1
              · refine .inr ⟨k1, ?_⟩
                by_cases k2 : g < c.a
                · exact .inl k2
                · refine .inr ⟨k2, ?_⟩
                  by_cases k3 : c.a + c.h.sz ≤ g
                  · exact .inl k3
                  · refine .inr ⟨by omega, ?_⟩
                    by_cases k4 : c.a + c.h.sz - g < sz
                    · exact k4
                    · exact absurd (hcr.2 ⟨k1, by omega, by omega, by omega⟩) hroom
            clear hr hroom hcr htk m3 m4 m5 HT HFull HRoom HRm HPi HMk hxm hx
            obtain ⟨xa, ⟨xt, xy, xl, xz⟩⟩ := c
            simp only at *
            obtain ⟨b0, b1, b2, b3⟩ := cells4 (hHb.alloc (.cells #[.int .i64 xa, .int .u8 xt, .int .i64 xy, .int .i64 xl, .int .i64 xz] 78))
            obtain ⟨d0, d1, d2, d3, d4⟩ := cells5 hNc
            clear hHb hNc HSn
            rcases hno with k1 | ⟨k1, k2 | ⟨k2, k3 | ⟨k3, k4⟩⟩⟩
            · subst k1
              go_wp2_with fail
              go_roundw
              case rel => exact ⟨j + 1, by go_num, by omega, HN⟩
              case measure => simp [intOf] <;> omega
            · have ht : (xt == 1) = false := by simpa using k1
              go_wp2_with fail
              go_roundw
              case rel => exact ⟨j + 1, by go_num, by omega, HN⟩
              case measure => simp [intOf] <;> omega
            · have ht : (xt == 1) = false := by simpa using k1
              go_wp2_with fail
              go_roundw
              case rel => exact ⟨j + 1, by go_num, by omega, HN⟩
              case measure => simp [intOf] <;> omega
            · have ht : (xt == 1) = false := by simpa using k1
              go_wp2_with fail
              go_roundw
              case rel => exact ⟨j + 1, by go_num, by omega, HN⟩
              case measure => simp [intOf] <;> omega
        · obtain rfl : j = cs.length := by omega
          have hn : roomO l cs g i n = none := by
            unfold roomO
            rw [List.find?_eq_none]
            intro c hc
            have := hr.out.1 c (by rw [List.take_length]; exact hc)
            simpa using this
          obtain ⟨e1, e2⟩ := HFull.out hn
          have HE := Lib.hid (And.intro e1 e2)
          have HK := Lib.hid (K2.out.trans hr.out.2)
          clear hr e1 e2 hn
          go_wp2_with fail
          go_ret
          exact ⟨ret_int HE.out.1.symm, by rw [HE.out.2]; exact Doc.same HD.out HK.out⟩
  · obtain ⟨e1, e2⟩ := putE_err (ws := ws) (cs := cs) (g := g) he
    rw [e1, e2]
    have hb : (sizeE l i n != 0) = true := by rw [bne_iff_ne]; exact he
    have HD := Lib.hid h
    unfold Hd.val at HO
    clear h hf he e1 e2
    generalize sizeE l i n = er at *
    generalize ofL l i n = xh at *
    generalize ws.length = L at *
    generalize l.length = M at *
    generalize xh.tg = xg at *
    generalize xh.ty = xt at *
    generalize xh.ln = xn at *
    generalize xh.sz = xs at *
    go_enter Tryz.func40, Tryz.ntmps40
    go_wp2_with fail
    refine HO.out.mono ?_
    rintro e w1 ⟨rfl, k1⟩
    have K1 := Lib.hid (k1.alloc (.cells #[.int .u8 xg, .int .i64 xt, .int .i64 xn, .int .i64 xs] 76))
    clear k1 HO
    go_wp2_with fail
    go_ret
    exact ⟨rfl, Doc.same HD.out K1.out⟩
end
end Go.Proofs.YtagmmbkgjomdlaaGreatDoor.Sp
