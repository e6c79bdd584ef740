/-
  Several texts in one: SpDrop, SpStep, SpDocCells, SpDocPut.
-/
import Derived.Test.YtdfnphgjjodfoaaGreatDoorG25
import Derived.Test.YtdfnphgjjodfoaaGreatDoorG22
import Derived.Test.YtdfnphgjjodfoaaGreatDoorG27
import Derived.Test.YtdfnphgjjodfoaaGreatDoorG26
import Derived.Test.YtdfnphgjjodfoaaGreatDoorG16
import Derived.Deep.RegionHeld3
/-
  The contract of Drop.
-/
namespace Go.Proofs.YtdfnphgjjodfoaaGreatDoor.Sp
open Go.RowKit Go.Proofs.YtdfnphgjjodfoaaGreatDoor.Ar Go.Proofs.YtdfnphgjjodfoaaGreatDoor.Sh
open Go.Proofs.YtdfnphgjjodfoaaGreatDoor.Hd (Hd Fields)
open Go.Proofs.YtdfnphgjjodfoaaGreatDoor.Tb (Ty Tab blk)
open Go.Proofs.YtdfnphgjjodfoaaGreatDoor.Bt (Bv atI prevO nextO has_ok hasV bit)
open Go.Proofs.YtdfnphgjjodfoaaGreatDoor.Wd (Table)
set_option linter.unusedVariables false
section
variable {w : World} {s : Ids} {l : List Ty} {ws : List Int} {bs : List Bool}
set_option maxRecDepth 100000 in
theorem drop_no (hG : Glob w s) (h : Spc w s l ws bs) (g : Int) (g0 : -9223372036854775808 ≤ g) (g1 : g ≤ 9223372036854775807) (hv : hasV bs g = false) :
    Calls Tryz.prog 60 #[.pointer (some ⟨s.sp, 0, none⟩), .int .i64 g] w fun e w' => e = .returned (.int .i64 3) ∧ Kept [] w w' := by
  obtain ⟨c0, c1, c2⟩ := h.cells
  have H := Lib.hid (has_ok bs _ _ w h.bv g g0 g1)
  rw [hv] at H
  clear h hG hv
  go_enter Tryz.func60, Tryz.ntmps60
  go_wp2_with fail
  refine H.out.mono ?_
  rintro e w1 ⟨rfl, hk⟩
  have HK := Lib.hid hk
  clear hk H
  go_wp2_with fail
  go_ret
  exact ⟨rfl, HK.out⟩
set_option maxRecDepth 100000 in
set_option maxHeartbeats 1000000 in
theorem drop_yes (hG : Glob w s) (h : Spc w s l ws bs) (g : Int) (g0 : 0 ≤ g) (g1 : g ≤ 1000000) (hv : hasV bs g = true) (hp : prevEndV bs ws g ≤ 300000) (hn : 0 ≤ nextStartV bs ws g ∧ nextStartV bs ws g ≤ 300000) :
    Calls Tryz.prog 60 #[.pointer (some ⟨s.sp, 0, none⟩), .int .i64 g] w fun e w' => e = .returned (.int .i64 0) ∧ Spc w' s l (dropW ws bs g) (dropB ws bs g) ∧ Kept s.turn w w' := by
  obtain ⟨c0, c1, c2⟩ := h.cells
  have hp0 := (prevEndV_bound h g).1
  have H := Lib.hid (has_ok bs _ _ w h.bv g (by omega) (by omega))
  rw [hv] at H
  have HP := Lib.hid (fun y (k : Kept [] w y) => prevEnd_ok (hG.keep0 k) (h.keep0 k) g (by omega) (by omega))
  have HN := Lib.hid (fun y (k : Kept [] w y) => nextStart_ok (hG.keep0 k) (h.keep0 k) g (by omega) (by omega))
  have HB := Lib.hid (fun y (k : Kept [] w y) => become_ok (hG.keep0 k) (h.keep0 k) (prevEndV bs ws g) (nextStartV bs ws g) hp0 hp hn.1 hn.2 none 0 [] (Seen.nil _ _) (fun g o e => by cases e) near_nil (by simp))
  clear h hG hv
  unfold dropW dropB
  generalize prevEndV bs ws g = pe at *
  generalize nextStartV bs ws g = ns at *
  generalize becomeW ws pe [] ns = ws2 at *
  generalize becomeB bs pe [] ns = bs2 at *
  go_enter Tryz.func60, Tryz.ntmps60
  go_wp2_with fail
  refine H.out.mono ?_
  rintro e w1 ⟨rfl, hk⟩
  have HK := Lib.hid hk
  clear hk H c0 c1 c2
  go_wp2_with fail
  refine (HP.out _ HK.out).mono ?_
  rintro e w2 ⟨rfl, hk⟩
  have HK2 := Lib.hid (HK.out.trans hk)
  clear hk HP HK
  go_wp2_with fail
  refine (HN.out _ HK2.out).mono ?_
  rintro e w3 ⟨rfl, hk⟩
  have HK3 := Lib.hid (HK2.out.trans hk)
  clear hk HN HK2
  go_wp2_with fail
  refine (HB.out _ HK3.out).mono ?_
  rintro e w4 ⟨⟨v4, rfl⟩, hS, hk⟩
  have HS := Lib.hid hS
  have HK4 := Lib.hid ((HK3.out.none _).trans hk)
  clear hk hS HB HK3
  go_wp2_with fail
  go_ret
  exact ⟨rfl, HS.out, HK4.out⟩
end
end Go.Proofs.YtdfnphgjjodfoaaGreatDoor.Sp

/-
  A space of a law's own making: its cells, its starts, Put and Drop on it.
-/
namespace Go.Proofs.YtdfnphgjjodfoaaGreatDoor.Sp
open Go.RowKit Go.Proofs.YtdfnphgjjodfoaaGreatDoor.Ar Go.Proofs.YtdfnphgjjodfoaaGreatDoor.Sh
open Go.Proofs.YtdfnphgjjodfoaaGreatDoor.Hd (Hd Fields ofL of_facts)
open Go.Proofs.YtdfnphgjjodfoaaGreatDoor.Tb (Ty Tab blk sizeE sizeT)
open Go.Proofs.YtdfnphgjjodfoaaGreatDoor.Bt (Bv bit atI prevO nextO hasV has_ok)
open Go.Proofs.YtdfnphgjjodfoaaGreatDoor.Wd (Table)
set_option linter.unusedVariables false

structure Mine (w x : World) (s : Ids) (l : List Ty) (ws : List Int) (bs : List Bool) (cs : List Cel) : Prop where
  kept : Kept [] w x
  spc : Spc x s l ws bs
  glob : Glob x s
  snd : Snd ws l bs cs
  fresh : ∀ i ∈ s.turn, w.heap.size ≤ i
/-- There is such a space, with these cells. -/
def Has1 (w x : World) (s : Ids) (l : List Ty) (cs : List Cel) : Prop := ∃ ws bs, Mine w x s l ws bs cs
theorem Mine.keep0 {w x y : World} {s : Ids} {l : List Ty} {ws : List Int} {bs : List Bool} {cs : List Cel} (h : Mine w x s l ws bs cs) (k : Kept [] x y) : Mine w y s l ws bs cs :=
  ⟨h.kept.trans k, h.spc.keep0 k, h.glob.keep0 k, h.snd, h.fresh⟩
theorem Has1.keep0 {w x y : World} {s : Ids} {l : List Ty} {cs : List Cel} (h : Has1 w x s l cs) (k : Kept [] x y) : Has1 w y s l cs := let ⟨ws, bs, m⟩ := h; ⟨ws, bs, m.keep0 k⟩
theorem Has1.kept {w x : World} {s : Ids} {l : List Ty} {cs : List Cel} (h : Has1 w x s l cs) : Kept [] w x := let ⟨ws, bs, m⟩ := h; m.kept
theorem Mine.turned {w x y : World} {s : Ids} {l : List Ty} {ws ws' : List Int} {bs bs' : List Bool} {cs cs' : List Cel} (h : Mine w x s l ws bs cs) (k : Kept s.turn x y) (hS : Spc y s l ws' bs') (hN : Snd ws' l bs' cs') : Mine w y s l ws' bs' cs' :=
  ⟨h.kept.forget k h.fresh, hS, h.glob.kept k, hN, h.fresh⟩
/-- All granules of cells. -/
def tot : List Cel → Int
  | [] => 0
  | c :: cs => c.h.sz + tot cs
theorem Tiled.sum {ws : List Int} {l : List Ty} : ∀ {cs : List Cel} {f e : Int}, Tiled ws l f cs e → f + tot cs = e
  | [], f, e, h => by
    have h : f = e := h
    show f + 0 = e
    omega
  | c :: cs, f, e, h => by
    have := Tiled.sum h.2.2.2.2
    show f + (c.h.sz + tot cs) = e
    omega
section
variable {w x : World} {s : Ids} {l : List Ty} {cs : List Cel}
end
end Go.Proofs.YtdfnphgjjodfoaaGreatDoor.Sp

/-
  The contracts of the document's Cells (layers 9 and 10) and of All, of words that cells fill.
-/
namespace Go.Proofs.YtdfnphgjjodfoaaGreatDoor.Sp
open Go.RowKit Go.Proofs.YtdfnphgjjodfoaaGreatDoor.Ar Go.Proofs.YtdfnphgjjodfoaaGreatDoor.Sh
open Go.Proofs.YtdfnphgjjodfoaaGreatDoor.Hd (Hd Fields encW gapH errH dgap_ok dencode_ok cells4 free4 dfits_row fitL)
open Go.Proofs.YtdfnphgjjodfoaaGreatDoor.Tb (Ty)
set_option linter.unusedVariables false

set_option maxRecDepth 100000 in
set_option maxHeartbeats 4000000 in
theorem dcells_ok {w : World} {A B : Option Addr} {c d : Nat} {ws : List Int} {l : List Ty} (hS : Ar.Seen w A ws) (hl : ws.length ≤ 65536) (hW : Wds ws) (hL : Tb.Seen w B l) (hok : ∀ x ∈ l, x.ok ∧ x.fit) (hlen : l.length ≤ 100000) (cs : List Cel) (hT : Tiled ws l 0 cs (gran ws)) :
    Calls Tryz.prog 29 #[.slice A ws.length c, .slice B l.length d] w fun e w' => ∃ v, e = .returned (.tuple #[v, .bool true]) ∧ Own w' v cs ∧ FreshV w v ∧ Kept [] w w' := by
  have HH := Lib.hid (fun y (k : Kept [] w y) (g : Int) => dhead_any (c := c) (hS.keep0 k) (by omega) hW g)
  have HFt := Lib.hid (fun y (k : Kept [] w y) (x : Hd) (ok : x.ok) => dfits_row (c := d) (hL.keep0 k) hok hlen x ok)
  have HOk := Lib.hid (fun g => hdH_ok (g := g) hW)
  have hgr : 0 ≤ gran ws ∧ gran ws ≤ 32768 := by unfold gran; omega
  have HC := Lib.hid (fun a rest (a0 : 0 ≤ a) (h : Tiled ws l a rest (gran ws)) => Tiled.cell h a0 (show gran ws ≤ (ws.length : Int) / 2 from Int.le_refl _))
  have hcl : cs.length ≤ 32768 := by
    rcases (hT.scans (Int.le_refl _)).length (Int.le_refl _) with h | h
    · unfold gran at hgr; omega
    · subst h; simp
  have ed : (ws.length : Int).tdiv 2 = gran ws := Int.tdiv_eq_ediv_of_nonneg (by omega)
  have H0 : Hid ([] ++ cs = cs ∧ Tiled ws l 0 cs (gran ws) ∧ Own w (.slice none 0 0) [] ∧ FreshV w (.slice none 0 0) ∧ Kept [] w w) := Lib.hid ⟨rfl, hT, Own.nil _, .inl rfl, Kept.refl _ _⟩
  clear hS hL hW hok hT
  generalize ws.length = L at *
  generalize gran ws = G at *
  go_enter Tryz.func29, Tryz.ntmps29
  go_wp2_with fail
  go_loopw [6, 7] (fun v t wr => ∃ (pre rest : List Cel) (a : Int), t = .int .i64 a ∧ 0 ≤ a ∧ a ≤ 32768 ∧ pre.length ≤ 32768 ∧ Hid (pre ++ rest = cs ∧ Tiled ws l a rest G ∧ Own wr v pre ∧ FreshV w v ∧ Kept [] w wr)) (fun _ t _ => (G - intOf t).toNat)
  case atStart => exact ⟨[], cs, 0, rfl, by omega, by omega, by simp, H0⟩
  case round =>
    obtain ⟨pre, rest, a, rfl, a0, a1, hp, hr⟩ := hrel
    clear H0
    by_cases hlt : a < G
    · cases rest with
      | nil =>
        exfalso
        have : a = G := hr.out.2.1
        omega
      | cons x rest =>
        obtain ⟨e1, t1, hO, hV, hk⟩ := hr.out
        obtain ⟨hx1, hx2, _⟩ := HC.out a _ a0 t1 x List.mem_cons_self
        have hxa : x.a = a := t1.1
        rw [hxa] at hx1 hx2
        have hz := can_sz t1.2.1
        have hle := t1.2.2.2.2.le
        have hfit : fitL l x.h = 0 := t1.2.2.2.1
        have H1 := Lib.hid (HH.out _ hk a)
        rw [hx1, hx2] at H1
        have hxo : x.h.ok := by rw [← hx2]; exact HOk.out a
        have H2 := Lib.hid (fun y (k : Kept [] w y) => HFt.out y k x.h hxo)
        rw [hfit] at H2
        have hpl : pre.length + 1 ≤ 32768 := by
          have := congrArg List.length e1
          rw [List.length_append, List.length_cons] at this
          omega
        have HE : Hid ((pre ++ [x]) ++ rest = cs ∧ Tiled ws l (a + x.h.sz) rest G) := Lib.hid ⟨by rw [← e1]; simp, t1.2.2.2.2⟩
        have HO := Lib.hid hO
        have HV := Lib.hid hV
        have HK := Lib.hid hk
        clear hr e1 t1 hO hV hk hx1 hx2 hfit hxo
        obtain ⟨xa, ⟨xt, xy, xl, xz⟩⟩ := x
        simp only at hxa hz hle HE H1 H2
        subst hxa
        unfold Hd.val at H1 H2
        simp only at H1 H2
        go_wp2_with fail
        refine H1.out.mono ?_
        rintro e w1 ⟨rfl, k1⟩
        have hB1 : Has (w1.alloc (.cells #[.int .u8 xt, .int .i64 xy, .int .i64 xl, .int .i64 xz] 35)) w1.heap.size 35 [.int .u8 xt, .int .i64 xy, .int .i64 xl, .int .i64 xz] := Has.new w1 _ _
        have K1 := Lib.hid (k1.alloc (.cells #[.int .u8 xt, .int .i64 xy, .int .i64 xl, .int .i64 xz] 35))
        have B1 := Lib.hid hB1
        clear k1 H1 hB1
        go_wp2_with fail
        generalize w1.alloc (.cells #[.int .u8 xt, .int .i64 xy, .int .i64 xl, .int .i64 xz] 35) = y1 at *
        generalize w1.heap.size = hb at *
        obtain ⟨c0, c1, c2, c3⟩ := cells4 B1.out
        go_wp2_with fail
        refine (H2.out _ (HK.out.trans K1.out)).mono ?_
        rintro e w2 ⟨rfl, k2⟩
        have hB2 := B1.out.keep0 k2
        have hO2 := HO.out.keep0 (K1.out.trans k2)
        clear c0 c1 c2 c3
        obtain ⟨c0, c1, c2, c3⟩ := cells4 hB2
        have hka : Kept [] w2 (w2.alloc (.cells #[.int .i64 xa, .int .u8 xt, .int .i64 xy, .int .i64 xl, .int .i64 xz] 37)) := (Kept.refl [] w2).alloc _
        have HSn : Hid (Seen (w2.alloc (.cells #[.int .i64 xa, .int .u8 xt, .int .i64 xy, .int .i64 xl, .int .i64 xz] 37)) (some ⟨w2.heap.size, 0, none⟩) [⟨xa, ⟨xt, xy, xl, xz⟩⟩]) := Lib.hid (seen_one (x := ⟨xa, ⟨xt, xy, xl, xz⟩⟩) (Has.new w2 _ _))
        have HO2 := Lib.hid (hO2.keep0 hka)
        have HB2 := Lib.hid (hB2.keep0 hka)
        have K2 := Lib.hid (((HK.out.trans K1.out).trans k2).trans hka)
        clear k2 hB2 hO2 hka B1 K1 HO HK H2
        go_wp2_with (at_builtin; (refine append_cels rfl (.tmp 39) (.tmp 43) rfl u6 pre rfl HO2.out (some ⟨w2.heap.size, 0, none⟩) 1 [⟨xa, ⟨xt, xy, xl, xz⟩⟩] rfl (fun h => by cases h) HSn.out (by rw [List.length_singleton]; omega) ?_))
        intro v' w4 o4 g4 b4 _
        have hk4 := own_grown K2.out HV.out g4
        have hf4 := own_fresh (v' := v') K2.out HV.out (by rw [World.size_alloc]; exact b4)
        have hne : hb ∉ u6.ownBlock.toList := fun hm => by
          obtain ⟨cs, hcs⟩ := own_cells HO2.out _ hm
          exact Has.block_type HB2.out hcs (by decide) rfl
        have hB4 := HB2.out.kept (kept_grown g4) hne
        clear c0 c1 c2 c3
        obtain ⟨c0, c1, c2, c3⟩ := cells4 hB4
        have HN : Hid (((pre ++ [(⟨xa, ⟨xt, xy, xl, xz⟩⟩ : Cel)]) ++ rest = cs) ∧ Tiled ws l (xa + xz) rest G ∧ Own w4 v' (pre ++ [(⟨xa, ⟨xt, xy, xl, xz⟩⟩ : Cel)]) ∧ FreshV w v' ∧ Kept [] w w4) := Lib.hid ⟨HE.out.1, HE.out.2, o4, hf4, hk4⟩
        clear o4 g4 b4 hk4 hf4 hne hB4 HSn HO2 HB2 K2 HE HV
        go_wp2_with fail
        go_roundw
        case rel => exact ⟨pre ++ [_], rest, xa + xz, rfl, by omega, by omega, by rw [List.length_append, List.length_singleton]; omega, HN⟩
        case measure => simp [intOf]; omega
    · obtain ⟨e1, t1, hO, hV, hk⟩ := hr.out
      have hrest : rest = [] := by
        cases rest with
        | nil => rfl
        | cons x rest => have := t1.2.2.2.2.le; have := can_sz t1.2.1; omega
      subst hrest
      have haG : a = G := t1
      subst haG
      rw [List.append_nil] at e1
      subst e1
      have HF := Lib.hid (And.intro hO (And.intro hV hk))
      clear hr hO hV hk t1
      go_wp2_with fail
      go_ret2
      exact ⟨u6, rfl, HF.out⟩

/-- What every call of the document's space may ask of its words and types. -/
structure Fit (x : World) (B : Option Addr) (l : List Ty) (ws : List Int) (cs : List Cel) : Prop where
  short : ws.length ≤ 65536
  wm : Wm ws
  types : Tb.Seen x B l
  ok : ∀ t ∈ l, t.ok ∧ t.fit
  few : l.length ≤ 64
  tiled : Tiled ws l 0 cs (gran ws)
theorem Fit.keep0 {x y : World} {B : Option Addr} {l : List Ty} {ws : List Int} {cs : List Cel} (h : Fit x B l ws cs) (k : Kept [] x y) : Fit y B l ws cs := ⟨h.short, h.wm, h.types.keep0 k, h.ok, h.few, h.tiled⟩
theorem Fit.most {x : World} {B : Option Addr} {l : List Ty} {ws : List Int} {cs : List Cel} (h : Fit x B l ws cs) : cs.length ≤ 32768 := by
  have hs := h.short
  rcases (h.tiled.scans (Int.le_refl _)).length (Int.le_refl _) with k | k
  · omega
  · subst k; simp
set_option maxRecDepth 100000 in
set_option maxHeartbeats 1000000 in
theorem all_ok {x : World} {r q cap : Nat} {B : Option Addr} {d : Nat} {l : List Ty} {ws : List Int} {cs : List Cel} (h : DSp x r q cap B d l ws) (hf : Fit x B l ws cs) :
    Calls Tryz.prog 9 #[.pointer (some ⟨r, 0, none⟩)] x fun e y => ∃ v, e = .returned v ∧ Own y v cs ∧ FreshV x v ∧ Kept [] x y := by
  have HC : Hid (∀ y : World, Kept [] x y → Calls Tryz.prog 29 #[.slice (some ⟨q, 0, none⟩) ws.length cap, .slice B l.length d] y fun e w' => ∃ v, e = .returned (.tuple #[v, .bool true]) ∧ Hid (Own w' v cs ∧ FreshV x v ∧ Kept [] x w') ∧ w'.cell? ⟨r, 0, none⟩ = some (.slice (some ⟨q, 0, none⟩) ws.length cap) ∧ w'.cell? ⟨r, 1, none⟩ = some (.slice B l.length d)) :=
    Lib.hid fun y k => (dcells_ok (c := cap) (d := d) (h.row.seen.keep0 k) hf.short (wds_of hf.wm) (hf.types.keep0 k) hf.ok (by have := hf.few; omega) cs hf.tiled).mono fun e z ⟨v, he, hO, hV, hk⟩ =>
      ⟨v, he, Lib.hid ⟨hO, hV.imp id fun ⟨b, hb, hl⟩ => ⟨b, hb, Nat.le_trans k.more hl⟩, k.trans hk⟩, (h.keep0 (k.trans hk)).cells.1, (h.keep0 (k.trans hk)).cells.2.1⟩
  obtain ⟨c0, c1, f0⟩ := h.cells
  have hx0 : Kept [] x x := Kept.refl _ _
  clear h hf
  generalize ws.length = L at *
  generalize l.length = M at *
  go_enter Tryz.func9, Tryz.ntmps9
  go_wp2_with fail
  go_region_held3 (fun y => y.cell? ⟨r, 0, none⟩ = some (.slice (some ⟨q, 0, none⟩) L cap) ∧ y.cell? ⟨r, 1, none⟩ = some (.slice B M d)) (go_keep)
    (first
      | (go_at_call 29; refine (HC.out _ ?_).mono ?_; (first | exact hx0 | exact hx0.drewN _ | exact hx0.drew); rintro e z1 ⟨v, rfl, hO, r0, r1⟩))
  all_goals
    clear r0 r1 c0 c1 f0 HC hx0
    go_wp2_with fail
    go_ret
    exact ⟨v, rfl, hO.out⟩
end Go.Proofs.YtdfnphgjjodfoaaGreatDoor.Sp

/-
  The contract of the document's Put.
-/
namespace Go.Proofs.YtdfnphgjjodfoaaGreatDoor.Sp
open Go.RowKit Go.Proofs.YtdfnphgjjodfoaaGreatDoor.Ar Go.Proofs.YtdfnphgjjodfoaaGreatDoor.Sh
open Go.Proofs.YtdfnphgjjodfoaaGreatDoor.Hd (Hd Fields encW gapH errH cells4 free4 dof_row ofL of_facts)
open Go.Proofs.YtdfnphgjjodfoaaGreatDoor.Tb (Ty sizeE sizeT)
set_option linter.unusedVariables false
section
variable {x : World} {r q cap : Nat} {B : Option Addr} {d : Nat} {l : List Ty} {ws : List Int} {cs : List Cel}
theorem Fit.sized {g i n : Int} (hf : Fit x B l ws cs) : (makeW ws l g i n).length = ws.length := makeW_length hf.few
/-- The words that are laid where there is room. -/
theorem lay_two {y : World} {r q cap : Nat} (h : DSp y r q cap B d l ws) (hl : ws.length ≤ 65536) (f g e z : Int) (f0 : 0 ≤ f) (g0 : f ≤ g) (z0 : 1 ≤ z) (hz : g + z ≤ e) (he : e ≤ gran ws) :
    Calls Tryz.prog 88 #[.pointer (some ⟨r, 0, none⟩), .int .i64 f, .int .i64 (g - f)] y fun e1 y1 => (∃ v, e1 = .returned v) ∧ Hid (Kept [r] y y1) ∧ Hid (Calls Tryz.prog 88 #[.pointer (some ⟨r, 0, none⟩), .int .i64 (g + z), .int .i64 (e - g - z)] y1 fun e2 y2 => (∃ v, e2 = .returned v) ∧ Doc y y2 r q B d l (gapS (gapS ws f g) (g + z) e)) := by
  have hg : gran ws = (ws.length : Int) / 2 := rfl
  refine (lay_ok h hl f (g - f) f0 (fun _ => by omega) (by omega)).mono ?_
  rintro e1 y1 ⟨he1, q1, cap1, h1, hq1, k1⟩
  rw [show f + (g - f) = g by omega] at h1
  refine ⟨he1, Lib.hid k1, Lib.hid ?_⟩
  refine (lay_ok h1 (by rw [gapS_length]; exact hl) (g + z) (e - g - z) (by omega) (fun _ => by rw [gran_eq (gapS_length _ _ _)]; omega) (by omega)).mono ?_
  rintro e2 y2 ⟨he2, q2, cap2, h2, hq2, k2⟩
  rw [show g + z + (e - g - z) = e by omega] at h2
  refine ⟨he2, q2, cap2, h2, ?_, k1.trans k2⟩
  rcases hq2 with rfl | hq2
  · exact hq1
  · exact .inr (Nat.le_trans k1.more hq2)
set_option maxRecDepth 100000 in
set_option maxHeartbeats 4000000 in
theorem sput_ok (h : DSp x r q cap B d l ws) (hf : Fit x B l ws cs) (g i n : Int) (g0 : -9223372036854775808 ≤ g) (g1 : g ≤ 9223372036854775807) (i0 : -9223372036854775808 ≤ i) (i1 : i ≤ 9223372036854775807) :
    Calls Tryz.prog 59 #[.pointer (some ⟨r, 0, none⟩), .int .i64 g, .int .i64 i, .int .i64 n] x fun e y => e = .returned (.int .i64 (putE ws l cs g i n)) ∧ Doc x y r q B d l (putX ws l cs g i n) := by
  have HO := Lib.hid (dof_row (c := d) hf.types hf.ok (by have := hf.few; omega) i n i0 i1)
  have ed : (ws.length : Int).tdiv 2 = gran ws := Int.tdiv_eq_ediv_of_nonneg (by omega)
  have hsh := hf.short
  have hgr : 0 ≤ gran ws ∧ gran ws ≤ 32768 := by unfold gran; omega
  obtain ⟨c0, c1, f0⟩ := h.cells
  by_cases he : sizeE l i n = 0
  · obtain ⟨sz, ho, s1, s2, j0, j1, n0, n1⟩ := of_facts he hf.few
    have HN : Hid (∀ y : World, Has (y.alloc (.cells #[.int .u8 1, .int .i64 i, .int .i64 n, .int .i64 sz] 35)) y.heap.size 35 [.int .u8 1, .int .i64 i, .int .i64 n, .int .i64 sz]) := Lib.hid fun y => Has.new y _ _
    rw [ho, he] at HO
    unfold Hd.val at HO
    simp only at HO
    have HD := Lib.hid h
    by_cases hout : g < 0 ∨ gran ws ≤ g
    · obtain ⟨e1, e2⟩ := putE_far (cs := cs) he hout
      rw [e1, e2]
      clear h hf he ho e1 e2
      generalize hL : ws.length = L at *
      generalize l.length = M at *
      generalize gran ws = G at *
      by_cases hg : g < 0
      · clear hout
        go_enter Tryz.func59, Tryz.ntmps59
        go_wp2_with fail
        refine HO.out.mono ?_
        rintro e w1 ⟨rfl, k1⟩
        have K1 := Lib.hid (k1.alloc (.cells #[.int .u8 1, .int .i64 i, .int .i64 n, .int .i64 sz] 35))
        clear k1 HO HN
        go_wp2_with fail
        go_ret
        exact ⟨rfl, Doc.same HD.out K1.out⟩
      · have hge : G ≤ g := by omega
        clear hout
        go_enter Tryz.func59, Tryz.ntmps59
        go_wp2_with fail
        refine HO.out.mono ?_
        rintro e w1 ⟨rfl, k1⟩
        have K1 := Lib.hid (k1.alloc (.cells #[.int .u8 1, .int .i64 i, .int .i64 n, .int .i64 sz] 35))
        clear c0 c1 f0
        obtain ⟨c0, c1, f0⟩ := (HD.out.keep0 K1.out).cells
        rw [hL] at c0
        clear k1 HO HN
        go_wp2_with fail
        go_ret
        exact ⟨rfl, Doc.same HD.out K1.out⟩
    · have hin : 0 ≤ g ∧ g < gran ws := by omega
      have HAl := Lib.hid (fun y (k : Kept [] x y) => all_ok (h.keep0 k) (hf.keep0 k))
      have hmost := hf.most
      have HT := Lib.hid hf.tiled
      have HFull := Lib.hid (putE_full (ws := ws) (l := l) (cs := cs) (n := n) (i := i) he hin)
      have HRoom := Lib.hid (fun x => putE_room (ws := ws) (l := l) (cs := cs) (n := n) (i := i) (x := x) he hin)
      have hmw := Lib.hid (hf.sized (g := g) (i := i) (n := n))
      have HMk : Hid (∀ y, Kept [] x y → (ofL l i n).sz ≤ gran ws - g → Calls Tryz.prog 100 #[.slice (some ⟨q, 0, none⟩) ws.length cap, .slice B l.length d, .int .i64 g, .int .i64 i, .int .i64 n] y fun e z => ∃ gb cap, e = .returned (.tuple #[.slice (some ⟨gb, 0, none⟩) ws.length cap, .int .i64 0]) ∧ Sh.Lay z gb (makeW ws l g i n) ∧ ws.length ≤ cap ∧ y.heap.size ≤ gb ∧ Kept [] y z) :=
        Lib.hid fun y k hr => dmake_yes (fun h => by cases h) (h.row.seen.keep0 k) h.cap hf.short (hf.types.keep0 k) hf.ok hf.few g i n i0 i1 he hin.1 hr
      have HRm : Hid (∀ c : Cel, RoomP l g i n c ↔ c.h.tg ≠ 1 ∧ c.a ≤ g ∧ g < c.a + c.h.sz ∧ sz ≤ c.a + c.h.sz - g) := Lib.hid fun c => by unfold RoomP; rw [ho]
      have HPi : Hid (∀ c : Cel, putInto ws l c g i n = gapS (gapS (makeW ws l g i n) c.a g) (g + sz) (c.a + c.h.sz)) := Lib.hid fun c => by unfold putInto; rw [ho]
      rw [ho] at HMk
      have HGm := Lib.hid (gran_eq (hf.sized (g := g) (i := i) (n := n)))
      clear h hf he ho hout
      simp only at HMk
      generalize hL : ws.length = L at *
      generalize hM : l.length = M at *
      generalize gran ws = G at *
      generalize makeW ws l g i n = ws1 at *
      go_enter Tryz.func59, Tryz.ntmps59
      go_wp2_with fail
      refine HO.out.mono ?_
      rintro e w1 ⟨rfl, k1⟩
      have K1 := Lib.hid (k1.alloc (.cells #[.int .u8 1, .int .i64 i, .int .i64 n, .int .i64 sz] 35))
      have B1 := Lib.hid (HN.out w1)
      have hb1 : x.heap.size ≤ w1.heap.size := k1.more
      clear c0 c1 f0
      obtain ⟨c0, c1, f0⟩ := (HD.out.keep0 K1.out).cells
      rw [hL] at c0
      clear k1 HO HN
      go_wp2_with fail
      generalize w1.alloc (.cells #[.int .u8 1, .int .i64 i, .int .i64 n, .int .i64 sz] 35) = y1 at *
      generalize w1.heap.size = hb at *
      refine (HAl.out _ K1.out).mono ?_
      rintro e x2 ⟨v, rfl, hO, hV, k2⟩
      obtain ⟨Av, cv, rfl, _⟩ := back_own (Kept.refl [] _) hO
      have HSn := Lib.hid hO.seen
      have K2 := Lib.hid (K1.out.trans k2)
      have B2 := Lib.hid (B1.out.keep0 k2)
      have H0 : Hid ((∀ c ∈ cs.take 0, ¬ RoomP l g i n c) ∧ Kept [] x2 x2) := Lib.hid ⟨by simp, Kept.refl _ _⟩
      clear hO hV k2 B1 K1 HAl c0 c1 f0
      go_wp2_with fail
      go_loopw [12] (fun t wr => ∃ j : Nat, t = .int .i64 (j : Int) ∧ j ≤ cs.length ∧ Hid ((∀ c ∈ cs.take j, ¬ RoomP l g i n c) ∧ Kept [] x2 wr)) (fun t _ => cs.length - (intOf t).toNat)
      case atStart => exact ⟨0, rfl, Nat.zero_le _, H0⟩
      case round =>
        obtain ⟨j, rfl, hj, hr⟩ := hrel
        clear H0
        by_cases hlt : j < cs.length
        · obtain ⟨g9, o9, rfl, hg9, c0, c1, c2, c3, c4⟩ := (HSn.out.keep0 hr.out.2).at j hlt _ rfl
          have hxm := cel_mem hlt
          have htk := cel_take hlt
          have hcr := HRm.out (cs.getD j Cel.zero)
          generalize hx : cs.getD j Cel.zero = c at hxm htk hcr c0 c1 c2 c3 c4
          obtain ⟨m1, m2, m3, m4, m5⟩ := HT.out.mem c hxm
          have hz := can_sz m3
          have hHb := B2.out.keep0 hr.out.2
          have hNc : Has (wr.alloc (.cells #[.int .i64 c.a, .int .u8 c.h.tg, .int .i64 c.h.ty, .int .i64 c.h.ln, .int .i64 c.h.sz] 37)) wr.heap.size 37 [.int .i64 c.a, .int .u8 c.h.tg, .int .i64 c.h.ty, .int .i64 c.h.ln, .int .i64 c.h.sz] := Has.new wr _ _
          by_cases hroom : RoomP l g i n c
          · have hro : roomO l cs g i n = some c := by
              unfold roomO
              rw [← List.take_append_drop j cs, List.find?_append, List.find?_eq_none.2 (fun d hd => by simpa using hr.out.1 d hd), cel_drop hlt, hx]
              simp [hroom]
            obtain ⟨e1, e2⟩ := HRoom.out c hro
            have HE := Lib.hid (And.intro e1 (e2.trans (HPi.out c)))
            obtain ⟨r1, r2, r3, r4⟩ := hcr.1 hroom
            have HM := Lib.hid (fun y k => HMk.out y k (show sz ≤ G - g by omega))
            clear e1 e2 hro hroom hcr htk m3 m4 m5 HT HFull HRoom HRm HPi HMk hxm hx
            obtain ⟨xa, ⟨xt, xy, xl, xz⟩⟩ := c
            simp only at *
            have ht : (xt == 1) = false := by simpa using r1
            have K3 := Lib.hid (((K2.out.trans hr.out.2).alloc (.cells #[.int .i64 xa, .int .u8 xt, .int .i64 xy, .int .i64 xl, .int .i64 xz] 37)))
            have B3 := Lib.hid (hHb.alloc (.cells #[.int .i64 xa, .int .u8 xt, .int .i64 xy, .int .i64 xl, .int .i64 xz] 37))
            have C3 := Lib.hid hNc
            clear hr r1 hHb hNc HSn
            have K9 := K3.out
            obtain ⟨b0, b1, b2, b3⟩ := cells4 B3.out
            obtain ⟨d0, d1, d2, d3, d4⟩ := cells5 C3.out
            go_wp2_with fail
            generalize wr.alloc (.cells #[.int .i64 xa, .int .u8 xt, .int .i64 xy, .int .i64 xl, .int .i64 xz] 37) = y3 at *
            generalize wr.heap.size = cb at *
            have hx0 : Kept [] y3 y3 := Kept.refl _ _
            have hD3 := HD.out.keep0 K3.out
            obtain ⟨c0', c1', f0'⟩ := hD3.cells
            rw [hL] at c0'
            rw [hM] at c1'
            have HM2 : Hid (∀ y, Kept [] y3 y → Calls Tryz.prog 100 #[.slice (some ⟨q, 0, none⟩) L cap, .slice B M d, .int .i64 g, .int .i64 i, .int .i64 n] y fun e z => ∃ gb cap2, e = .returned (.tuple #[.slice (some ⟨gb, 0, none⟩) L cap2, .int .i64 0]) ∧ Hid (Sh.Lay z gb ws1 ∧ L ≤ cap2 ∧ y3.heap.size ≤ gb ∧ Kept [] y3 z) ∧ z.cell? ⟨r, 0, none⟩ = some (.slice (some ⟨q, 0, none⟩) L cap) ∧ z.cell? ⟨r, 1, none⟩ = some (.slice B M d)) :=
              Lib.hid fun y k => (HM.out y (K3.out.trans k)).mono fun e z ⟨gb, cap2, he, h1, h2, h3, h4⟩ => ⟨gb, cap2, he, Lib.hid ⟨h1, h2, Nat.le_trans k.more h3, k.trans h4⟩, by rw [← hL]; exact (hD3.keep0 (k.trans h4)).cells.1, by rw [← hM]; exact (hD3.keep0 (k.trans h4)).cells.2.1⟩
            clear HM c0 c1 c2 c3 c4 b0 b1 b2 b3 d0 d1 d2 d3 d4 K9 hD3
            go_region_held3 (fun y => y.cell? ⟨r, 0, none⟩ = some (.slice (some ⟨q, 0, none⟩) L cap) ∧ y.cell? ⟨r, 1, none⟩ = some (.slice B M d)) (go_keep)
              (first
                | (go_at_call 100; refine (HM2.out _ ?_).mono ?_; (first | exact hx0 | exact hx0.drewN _ | exact hx0.drew); rintro e z1 ⟨gb, cap2, rfl, hM1, r0, r1⟩))
            all_goals
              obtain ⟨M1, M2, M3, M4⟩ := hM1.out
              have hD4 := HD.out.keep0 (K3.out.trans M4)
              have f4 := hD4.cells.2.2
              have HQ := Lib.hid (And.intro M1 (And.intro M2 (And.intro M3 M4)))
              have hD5 : DSp (z1.setCell ⟨r, 0, none⟩ (.slice (some ⟨gb, 0, none⟩) L cap2)) r gb cap2 B d l ws1 := by
                have hrg : r ≠ gb := by have := HD.out.head.lt; have := K3.out.more; omega
                refine ⟨?_, ?_, by rw [hmw.out]; exact M2⟩
                · rw [hmw.out]
                  have := hD4.head.put 0 (.slice (some ⟨gb, 0, none⟩) L cap2)
                  exact this
                · obtain ⟨rest, hr⟩ := M1
                  exact ⟨rest, hr.beside _ (Ne.symm hrg) _⟩
              have hK5 : Kept [r] y3 (z1.setCell ⟨r, 0, none⟩ (.slice (some ⟨gb, 0, none⟩) L cap2)) := (M4.none _).setCell _ _ (.inl (by simp))
              have HL2 := Lib.hid (lay_two hD5 (by rw [hmw.out]; omega) xa g (xa + xz) sz (by omega) (by omega) (by omega) (by omega) (by rw [HGm.out]; omega))
              have hD3' := HD.out.keep0 K3.out
              have hnr : hb ≠ r := Has.block_type B3.out hD3'.head (by decide)
              have hcr : cb ≠ r := Has.block_type C3.out hD3'.head (by decide)
              have hB5 := (B3.out.keep0 M4).beside ⟨r, 0, none⟩ hnr (.slice (some ⟨gb, 0, none⟩) L cap2)
              have hC5 := (C3.out.keep0 M4).beside ⟨r, 0, none⟩ hcr (.slice (some ⟨gb, 0, none⟩) L cap2)
              obtain ⟨b0, b1, b2, b3⟩ := cells4 hB5
              obtain ⟨d0, d1, d2, d3, d4⟩ := cells5 hC5
              have HB5 := Lib.hid hB5
              have HC5 := Lib.hid hC5
              have HK5 := Lib.hid hK5
              have Hgb := Lib.hid M3
              clear M1 M2 M3 M4 hD4 hD5 hK5 hM1 HQ hD3' hB5 hC5 HM2 hx0
              go_wp2_with fail
              generalize z1.setCell ⟨r, 0, none⟩ (.slice (some ⟨gb, 0, none⟩) L cap2) = y5 at *
              refine HL2.out.mono ?_
              rintro e5 y6 ⟨⟨v5, rfl⟩, hk6, hL6⟩
              have hB6 := HB5.out.kept hk6.out (by simpa using hnr)
              have hC6 := HC5.out.kept hk6.out (by simpa using hcr)
              clear b0 b1 b2 b3 d0 d1 d2 d3 d4 HB5 HC5 HL2 hk6
              obtain ⟨b0, b1, b2, b3⟩ := cells4 hB6
              obtain ⟨d0, d1, d2, d3, d4⟩ := cells5 hC6
              clear hB6 hC6
              go_wp2_with fail
              refine hL6.out.mono ?_
              rintro e6 y7 ⟨⟨v6, rfl⟩, q', cap', h7, hq', k7⟩
              have HEnd : Hid (Doc x y7 r q B d l (gapS (gapS ws1 xa g) (g + sz) (xa + xz))) := Lib.hid ⟨q', cap', h7, .inr (by have := K3.out.more; have := HK5.out.more; have := Hgb.out; rcases hq' with rfl | hq' <;> omega), ((K3.out.none _).trans HK5.out).trans k7⟩
              clear h7 hq' k7 hL6
              go_wp2_with fail
              go_ret
              exact ⟨ret_int HE.out.1.symm, by rw [HE.out.2]; exact HEnd.out⟩
          · have HN : Hid ((∀ c ∈ cs.take (j + 1), ¬ RoomP l g i n c) ∧ Kept [] x2 (wr.alloc (.cells #[.int .i64 c.a, .int .u8 c.h.tg, .int .i64 c.h.ty, .int .i64 c.h.ln, .int .i64 c.h.sz] 37))) := Lib.hid ⟨fun e he => by
                rw [htk] at he
                rcases List.mem_append.1 he with he | he
                · exact hr.out.1 e he
                · rw [List.mem_singleton.1 he]; exact hroom, hr.out.2.alloc _⟩
            have hno : c.h.tg = 1 ∨ (c.h.tg ≠ 1 ∧ (g < c.a ∨ (¬ g < c.a ∧ (c.a + c.h.sz ≤ g ∨ (g < c.a + c.h.sz ∧ c.a + c.h.sz - g < sz))))) := by
              by_cases k1 : c.h.tg = 1
              · exact .inl k1
              · refine .inr ⟨k1, ?_⟩
                by_cases k2 : g < c.a
                · exact .inl k2
                · refine .inr ⟨k2, ?_⟩
                  by_cases k3 : c.a + c.h.sz ≤ g
                  · exact .inl k3
                  · refine .inr ⟨by omega, ?_⟩
                    by_cases k4 : c.a + c.h.sz - g < sz
                    · exact k4
                    · exact absurd (hcr.2 ⟨k1, by omega, by omega, by omega⟩) hroom
            clear hr hroom hcr htk m3 m4 m5 HT HFull HRoom HRm HPi HMk hxm hx
            obtain ⟨xa, ⟨xt, xy, xl, xz⟩⟩ := c
            simp only at *
            obtain ⟨b0, b1, b2, b3⟩ := cells4 (hHb.alloc (.cells #[.int .i64 xa, .int .u8 xt, .int .i64 xy, .int .i64 xl, .int .i64 xz] 37))
            obtain ⟨d0, d1, d2, d3, d4⟩ := cells5 hNc
            clear hHb hNc HSn
            rcases hno with k1 | ⟨k1, k2 | ⟨k2, k3 | ⟨k3, k4⟩⟩⟩
            · subst k1
              go_wp2_with fail
              go_roundw
              case rel => exact ⟨j + 1, by go_num, by omega, HN⟩
              case measure => simp [intOf] <;> omega
            · have ht : (xt == 1) = false := by simpa using k1
              go_wp2_with fail
              go_roundw
              case rel => exact ⟨j + 1, by go_num, by omega, HN⟩
              case measure => simp [intOf] <;> omega
            · have ht : (xt == 1) = false := by simpa using k1
              go_wp2_with fail
              go_roundw
              case rel => exact ⟨j + 1, by go_num, by omega, HN⟩
              case measure => simp [intOf] <;> omega
            · have ht : (xt == 1) = false := by simpa using k1
              go_wp2_with fail
              go_roundw
              case rel => exact ⟨j + 1, by go_num, by omega, HN⟩
              case measure => simp [intOf] <;> omega
        · obtain rfl : j = cs.length := by omega
          have hn : roomO l cs g i n = none := by
            unfold roomO
            rw [List.find?_eq_none]
            intro c hc
            have := hr.out.1 c (by rw [List.take_length]; exact hc)
            simpa using this
          obtain ⟨e1, e2⟩ := HFull.out hn
          have HE := Lib.hid (And.intro e1 e2)
          have HK := Lib.hid (K2.out.trans hr.out.2)
          clear hr e1 e2 hn
          go_wp2_with fail
          go_ret
          exact ⟨ret_int HE.out.1.symm, by rw [HE.out.2]; exact Doc.same HD.out HK.out⟩
  · obtain ⟨e1, e2⟩ := putE_err (ws := ws) (cs := cs) (g := g) he
    rw [e1, e2]
    have hb : (sizeE l i n != 0) = true := by rw [bne_iff_ne]; exact he
    have HD := Lib.hid h
    unfold Hd.val at HO
    clear h hf he e1 e2
    generalize sizeE l i n = er at *
    generalize ofL l i n = xh at *
    generalize ws.length = L at *
    generalize l.length = M at *
    generalize xh.tg = xg at *
    generalize xh.ty = xt at *
    generalize xh.ln = xn at *
    generalize xh.sz = xs at *
    go_enter Tryz.func59, Tryz.ntmps59
    go_wp2_with fail
    refine HO.out.mono ?_
    rintro e w1 ⟨rfl, k1⟩
    have K1 := Lib.hid (k1.alloc (.cells #[.int .u8 xg, .int .i64 xt, .int .i64 xn, .int .i64 xs] 35))
    clear k1 HO
    go_wp2_with fail
    go_ret
    exact ⟨rfl, Doc.same HD.out K1.out⟩
end
end Go.Proofs.YtdfnphgjjodfoaaGreatDoor.Sp
