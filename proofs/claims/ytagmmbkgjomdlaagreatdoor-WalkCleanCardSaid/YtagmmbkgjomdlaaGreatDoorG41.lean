/-
  Several texts in one: WkObjs, WkCount, WkDocBegins, WkDocTarget.
-/
import Derived.Test.YtagmmbkgjomdlaaGreatDoorG21
import Derived.Test.YtagmmbkgjomdlaaGreatDoorG01
import Derived.Test.YtagmmbkgjomdlaaGreatDoorG20
import Derived.Test.YtagmmbkgjomdlaaGreatDoorG28
import Derived.Shelf.RegionOpen
import Derived.Test.YtagmmbkgjomdlaaGreatDoorG14
/-
  The contract of walk's Objects.
-/
namespace Go.Proofs.YtagmmbkgjomdlaaGreatDoor.Wk
open Go.RowKit Go.Proofs.YtagmmbkgjomdlaaGreatDoor.Ar Go.Proofs.YtagmmbkgjomdlaaGreatDoor.Lk Go.Shelf Go.Sort Go.Proofs.YtagmmbkgjomdlaaGreatDoor.Sp
open Go.Proofs.YtagmmbkgjomdlaaGreatDoor.Hd (Hd Fields)
open Go.Proofs.YtagmmbkgjomdlaaGreatDoor.Tb (Ty Tab)
set_option linter.unusedVariables false
attribute [local go_sem] Oper.semAt_some

/-- Where a space's arena and table are; a nil space has none. -/
structure From (w : World) (p pa pt : Option Addr) : Prop where
  ar : ∀ y, Kept [] w y → Calls Tryz.prog 23 #[.pointer p] y fun e z => e = .returned (.pointer pa) ∧ y = z
  tb : ∀ y, Kept [] w y → Calls Tryz.prog 24 #[.pointer p] y fun e z => e = .returned (.pointer pt) ∧ y = z
theorem From.keep0 {w x : World} {p pa pt : Option Addr} (h : From w p pa pt) (k : Kept [] w x) : From x p pa pt := ⟨fun y hy => h.ar y (k.trans hy), fun y hy => h.tb y (k.trans hy)⟩
theorem from_nil (w : World) : From w none none none := by
  constructor
  · intro y _
    go_enter Tryz.func23, Tryz.ntmps23
    go_wp2_with fail
    go_ret
    exact ⟨rfl, rfl⟩
  · intro y _
    go_enter Tryz.func24, Tryz.ntmps24
    go_wp2_with fail
    go_ret
    exact ⟨rfl, rfl⟩
theorem from_spc {w : World} {s : Ids} {l : List Ty} {ws : List Int} {bs : List Bool} (h : Spc w s l ws bs) : From w (some ⟨s.sp, 0, none⟩) (some ⟨s.ap, 0, none⟩) (some ⟨s.tp, 0, none⟩) :=
  ⟨fun y k => arena_ok (h.keep0 k), fun y k => table_ok (h.keep0 k)⟩
theorem good_spc {w : World} {s : Ids} {l : List Ty} {ws : List Int} {bs : List Bool} (hF : Fields w) (h : Spc w s l ws bs) : Good w (some ⟨s.ap, 0, none⟩) (some ⟨s.tp, 0, none⟩) l ws :=
  ⟨hF, .inr (let ⟨m, a⟩ := h.ar; ⟨s.ap, s.aq, m, s.tp, s.A, s.c, rfl, rfl, a, h.tab, h.wm⟩)⟩
theorem good_nil {w : World} (hF : Fields w) : Good w none none [] [] := ⟨hF, .inl ⟨rfl, rfl⟩⟩
theorem scans_nil : Scans [] [] 0 [] := cellB_out (by simp)
theorem objs_snoc (cs : List Cel) (c : Cel) : objs (cs ++ [c]) = if c.h.tg = 1 then objs cs ++ [c] else objs cs := by
  rw [objs_append]
  by_cases h : c.h.tg = 1
  · rw [if_pos h, objs_one h]
  · rw [if_neg h, objs_none (cs := [c]) (fun d hd => by rw [List.mem_singleton.1 hd]; exact h), List.append_nil]
theorem most_of {X : World} {pa pt : Option Addr} {l : List Ty} {ws : List Int} {cs : List Cel} (hg : Good X pa pt l ws) (hC : Scans ws l 0 cs) : cs.length ≤ 32768 := by
  have hb := hg.bound
  rcases hC.length (Int.le_refl _) with h | h
  · have : gran ws = (ws.length : Int) / 2 := rfl
    omega
  · subst h; simp

set_option maxRecDepth 100000 in
set_option maxHeartbeats 4000000 in
theorem objects_ok {w : World} {p pa pt : Option Addr} {l : List Ty} {ws : List Int} {cs : List Cel} (hs : From w p pa pt) (hg : Good w pa pt l ws) (hC : Scans ws l 0 cs) :
    Calls Tryz.prog 12 #[.pointer p] w fun e w' => ∃ v, e = .returned v ∧ Sp.Own w' v (objs cs) ∧ Sp.FreshV w v ∧ Kept [] w w' := by
  have hcl := most_of hg hC
  have HFr := Lib.hid hs
  have HGd := Lib.hid hg
  have HC := Lib.hid hC
  clear hs hg hC
  refine (callsIn_wide (n := 5)).1 ?_
  refine callsIn_of_wp_marks Tryz.func12 rfl trivial ?_ rfl
  simp only [Tryz.ntmps12, List.size_toArray, List.length_cons, List.length_nil, Nat.reduceAdd, Nat.reduceSub, Array.replicate_succ, Array.replicate_zero, List.push_toArray, List.append_toArray, List.nil_append, List.cons_append]
  gi_wp2_with (fail)
  have hk2 : Kept [] w (w.alloc (.cells #[.slice none 0 0] 36)) := (Kept.refl [] w).alloc _
  have h3 := Has.new w 36 [.slice none 0 0]
  obtain ⟨w2, hw2⟩ : ∃ w2, w.alloc (.cells #[.slice none 0 0] 36) = w2 := ⟨_, rfl⟩
  have hw2' : w.alloc (.cells [.slice none 0 0].toArray 36) = w2 := hw2
  rw [hw2] at hk2 ⊢
  rw [hw2'] at h3
  clear hw2 hw2'
  have H30 := Lib.hid h3
  have Hkw := Lib.hid hk2
  clear h3 hk2
  refine ⟨trivial, (callsIn_wide.2 (HFr.out.ar _ Hkw.out)).mono ?_⟩
  rintro e z ⟨rfl, rfl⟩
  gi_wp2_with (fail)
  refine ⟨trivial, (callsIn_wide.2 (HFr.out.tb _ Hkw.out)).mono ?_⟩
  rintro e z ⟨rfl, rfl⟩
  gi_wp2_with (fail)
  refine ⟨trivial, (callsIn_wide.2 (wcells_ok pa pt _)).mono ?_⟩
  rintro e w5 ⟨rfl, hw5⟩
  have hk5 : Kept [] w2 w5 := by rw [hw5]; exact ((Kept.refl [] w2).alloc _).alloc _
  have hb5 : Has w5 w2.heap.size 62 [.pointer pa] := by rw [hw5]; exact (Has.new w2 _ _).alloc _
  have hg5 : Has w5 (w2.heap.size + 1) 64 [.pointer pt] := by
    rw [hw5]
    have := Has.new (w2.alloc (.cells #[.pointer pa] 62)) 64 [.pointer pt]
    rwa [World.size_alloc] at this
  have hl5 := H30.out.keep0 hk5
  have Hk5 := Lib.hid (Hkw.out.trans hk5)
  have Hb5 := Lib.hid hb5
  have Hg5 := Lib.hid hg5
  have Hl5 := Lib.hid hl5
  have HSb : Hid (Boxes w5 [w.heap.size]) := Lib.hid ⟨fun b hb => by rw [List.mem_singleton.1 hb]; exact ⟨_, _, hl5, by decide⟩, fun b hb => by rw [List.mem_singleton.1 hb]; exact ownAt_has hl5, fun b hb => by rw [List.mem_singleton.1 hb]; exact Nat.ne_of_gt HGd.out.1.lt⟩
  have Hlt5 := Lib.hid hl5.lt
  clear hk5 hb5 hg5 hw5 hl5 Hkw H30
  obtain ⟨ba, hba⟩ : ∃ ba, w2.heap.size = ba := ⟨_, rfl⟩
  obtain ⟨bb, hbb⟩ : ∃ bb, w2.heap.size + 1 = bb := ⟨_, rfl⟩
  rw [hbb] at Hg5 ⊢
  rw [hba] at Hb5 ⊢
  clear hba hbb
  gi_wp2_with (fail)
  refine wpIn_rangeFunc_ownH rfl (by decide) (gf := 96) (lb := #[.pointer (some ⟨ba, 0, none⟩), .pointer (some ⟨bb, 0, none⟩)]) rfl trivial (enters_of Tryz.func96 (by kernel_rfl) rfl)
    (wcells_stops 4 (by decide) [w.heap.size] ba bb pa pt l ws cs w5 Hb5.out Hg5.out (HGd.out.keep0 Hk5.out) HC.out HSb.out)
    (fun h k => h.trans k) (fun W l o o' hl h hc _ => Kpn.put (fun b hb => by rw [List.mem_singleton.1 hb]; exact Hlt5.out) W l o o' hl h hc) (Below.refl _ _) (fun _ => rfl)
    (fun pre W => (∃ v, Has W w.heap.size 36 [v] ∧ Sp.Own W v (objs (vals pre)) ∧ Sp.FreshV w v) ∧ Kept [] w W)
    (fun _ _ _ => False)
    (OwnFrom.and (fun pre X Y row hs hg hr => by
      obtain ⟨v, h1, h2, h3⟩ := hs
      exact ⟨v, own_has (β := Unit) (f := fun _ => [v]) () X Y row h1 hg hr, Sp.own_from () X Y row h2 hg hr, h3⟩) (own_kept Hk5.out.more))
    (fun _ _ _ _ _ hs _ _ => hs)
    ⟨⟨_, Hl5.out, Sp.Own.nil _, .inl rfl⟩, Hk5.out⟩
    (fun x a' W => ∃ Bx, Has W Bx 78 [.int .i64 x.1.a, .int .u8 x.1.h.tg, .int .i64 x.1.h.ty, .int .i64 x.1.h.ln, .int .i64 x.1.h.sz] ∧ a' = { tmps := #[.pointer p, undef, .slice none 0 0, .pointer (some ⟨w.heap.size, 0, none⟩), .pointer (some ⟨Bx, 0, none⟩), .pointer p, .pointer pa, .pointer p, .pointer pt, .func (.func 96) #[] #[.pointer (some ⟨ba, 0, none⟩), .pointer (some ⟨bb, 0, none⟩)], .agg #[.int .i64 x.1.a, .int .u8 x.1.h.tg, .int .i64 x.1.h.ty, .int .i64 x.1.h.ln, .int .i64 x.1.h.sz], undef, undef, undef, undef, undef, undef, undef, undef, undef], defers := [] })
    (fun x a' _ X Y row hs hg hr => by
      obtain ⟨Bx, h2, h3⟩ := hs
      exact ⟨Bx, own_has (β := Unit) (f := fun _ => [.int .i64 x.1.a, .int .u8 x.1.h.tg, .int .i64 x.1.h.ty, .int .i64 x.1.h.ln, .int .i64 x.1.h.sz]) () X Y row h2 hg hr, h3⟩)
    ?assign ?body ?done ?stop
  case assign =>
    rintro l pre x W K ⟨⟨v, hi3, hO, hV⟩, hk⟩ hK
    unfold encs
    have HK := Lib.hid hK
    have HI := Lib.hid hi3
    have HO := Lib.hid hO
    have HV := Lib.hid hV
    have Hk := Lib.hid hk
    clear hi3 hO hV hk hK
    gi_wp2
    have hkn : Kept [] W (W.alloc (.cells #[.int .i64 x.1.a, .int .u8 x.1.h.tg, .int .i64 x.1.h.ty, .int .i64 x.1.h.ln, .int .i64 x.1.h.sz] 78)) := (Kept.refl [] W).alloc _
    exact HK.out _ _ (keepsFrom_of hkn (by simp)) (Kpn.ofKept hkn (fun b hb => by rw [List.mem_singleton.1 hb]; exact HI.out.lt)) ⟨⟨v, HI.out.keep0 hkn, HO.out.keep0 hkn, HV.out⟩, Hk.out.trans hkn⟩ ⟨W.heap.size, Has.new W _ _, rfl⟩
  case body =>
    rintro l pre y a' W _ _ ⟨⟨v, hi3, hO, hV⟩, hk⟩ ⟨Bx, hX, rfl⟩ hlen
    have hsn := vals_snoc pre y
    have hos := objs_snoc (vals pre) y.1
    rw [← hsn] at hos
    have hlr : (objs (vals pre)).length ≤ 32768 := by
      have h1 : (objs (vals pre)).length ≤ (vals pre).length := List.length_filter_le _ _
      have h2 : (vals pre).length = pre.length := List.length_map _
      omega
    clear hsn
    obtain ⟨⟨ca, ⟨ct, cy, cl, cz⟩⟩, hy⟩ := y
    simp only at hos hX
    obtain ⟨x0, x1, x2, x3, x4⟩ := cells5 hX
    have c3 := hi3.cell 0
    have f3 := hi3.free 0
    simp at c3
    have Hk := Lib.hid hk
    have H3' := Lib.hid hi3
    have HO := Lib.hid hO
    have HV := Lib.hid hV
    clear hk hlen hO hV hX
    dsimp only
    clear hi3
    by_cases ht : ct = 1
    · rw [if_pos ht] at hos
      have Hos := Lib.hid hos
      clear hos
      subst ht
      have hka : Kept [] W (W.alloc (.cells #[.int .i64 ca, .int .u8 1, .int .i64 cy, .int .i64 cl, .int .i64 cz] 78)) := (Kept.refl [] W).alloc _
      have hB : Has (W.alloc (.cells #[.int .i64 ca, .int .u8 1, .int .i64 cy, .int .i64 cl, .int .i64 cz] 78)) W.heap.size 78 (Cel.l ⟨ca, ⟨1, cy, cl, cz⟩⟩) := Has.new W 78 [.int .i64 ca, .int .u8 1, .int .i64 cy, .int .i64 cl, .int .i64 cz]
      have H0 := Lib.hid hB
      have HOa := Lib.hid (HO.out.keep0 hka)
      have Hka := Lib.hid hka
      clear hka hB
      generalize objs (vals pre) = rs at *
      gi_wp2_with (gi_at_builtin; refine append_cels_in rfl (.tmp 15) (.tmp 17) rfl v rs rfl HOa.out W.heap.size 1 ⟨ca, ⟨1, cy, cl, cz⟩⟩ rfl H0.out (by omega) ?_)
      all_goals
        intro v' w3 hO hG hV
        have hk3 : Kept [] w w3 := own_grown (Hk.out.trans Hka.out) HV.out hG
        have hF3 := own_fresh (v' := v') (Hk.out.trans Hka.out) HV.out (by rw [World.size_alloc]; exact hV)
        have hS := Sp.kept_grown hG
        have hne : w.heap.size ∉ v.ownBlock.toList := fun hm => by
          obtain ⟨cs, hcs⟩ := Sp.own_cells HO.out _ hm
          exact Has.block_type H3'.out hcs (by decide) rfl
        have h3 := (H3'.out.keep0 Hka.out).kept hS hne
        have c3 := h3.cell 0
        have f3 := h3.free 0
        simp at c3
        obtain ⟨g', cap', rfl, hg', _⟩ : ∃ g cap, v' = .slice (some ⟨g, 0, none⟩) (rs ++ [(⟨ca, ⟨1, cy, cl, cz⟩⟩ : Cel)]).length cap ∧ g < w3.heap.size ∧ (rs ++ [(⟨ca, ⟨1, cy, cl, cz⟩⟩ : Cel)]).length ≤ cap := by
          rcases hO.form with ⟨_, h⟩ | h
          · simp at h
          · obtain ⟨g, cap, h1, h2, h3, _⟩ := h
            exact ⟨g, cap, h1, h2, h3⟩
        have hown : ∀ X : World, w3.heap.size ≤ X.heap.size → (Value.slice (some ⟨g', 0, none⟩) (rs ++ [(⟨ca, ⟨1, cy, cl, cz⟩⟩ : Cel)]).length cap').ownBlock = v.ownBlock ∨ ∃ g, (Value.slice (some ⟨g', 0, none⟩) (rs ++ [(⟨ca, ⟨1, cy, cl, cz⟩⟩ : Cel)]).length cap').ownBlock = some g ∧ W.heap.size ≤ g ∧ g < X.heap.size := fun X hX => by
          rcases hV with h | h
          · exact .inl h
          · refine .inr ⟨g', rfl, ?_, by omega⟩
            have h : some g' = some _ := h
            injection h with h
            try rw [World.size_alloc] at h
            omega
        have HO3 := Lib.hid hO
        have Hk3 := Lib.hid hk3
        have HF3 := Lib.hid hF3
        have HS := Lib.hid ((Hka.out.none _).trans hS)
        have H33 := Lib.hid h3
        have Hown := Lib.hid hown
        clear hO hk3 hF3 hS h3 hne hG hV H0 HOa hown
        obtain ⟨len, hlen⟩ : ∃ len, len = (rs ++ [(⟨ca, ⟨1, cy, cl, cz⟩⟩ : Cel)]).length := ⟨_, rfl⟩
        rw [← hlen] at HO3 HF3 Hown ⊢
        clear hlen
        gi_wp2_with (fail)
        have hKS : Kept [w.heap.size] w3 (w3.setCell ⟨w.heap.size, 0, none⟩ (.slice (some ⟨g', 0, none⟩) len cap')) := (Kept.refl _ w3).setCell _ _ (.inl (by simp))
        have hKA : Kept (w.heap.size :: v.ownBlock.toList) W (w3.setCell ⟨w.heap.size, 0, none⟩ (.slice (some ⟨g', 0, none⟩) len cap')) := (HS.out.mono fun b hb => List.mem_cons_of_mem _ hb).trans (hKS.mono (by simp))
        have hbx : Has (w3.setCell ⟨w.heap.size, 0, none⟩ (.slice (some ⟨g', 0, none⟩) len cap')) w.heap.size 36 [.slice (some ⟨g', 0, none⟩) len cap'] := H33.out.put 0 _
        refine ⟨keepsFrom_of hKA ?_, Kpn.box (List.mem_singleton.2 rfl) H3'.out hKA hbx (Hown.out _ hKS.more) (fun c hc hn => absurd (List.mem_singleton.1 hc) hn), ⟨_, hbx, ?_, HF3.out⟩, Hk3.out.forget hKS (by simp)⟩
        · intro b hb
          rcases List.mem_cons.1 hb with rfl | hb
          · exact ⟨_, _, H3'.out⟩
          · exact ⟨_, Sp.own_cells HO.out b hb⟩
        · rw [Hos.out]
          exact HO3.out.kept hKS fun g hg e => by
            obtain rfl := List.mem_singleton.1 hg
            obtain ⟨cs, hcs⟩ := Sp.own_cells HO3.out w.heap.size (by rw [e]; simp)
            exact Has.block_type H33.out hcs (by decide) rfl
    · rw [if_neg ht] at hos
      have Hos := Lib.hid hos
      have hb : (ct == 1) = false := by simpa using ht
      clear hos ht
      gi_wp2_with (fail)
      exact ⟨keepsFrom_of (Kept.refl [] W) (by simp), Kpn.refl _ _, ⟨v, H3'.out, by rw [Hos.out]; exact HO.out, HV.out⟩, Hk.out⟩
  case done =>
    rintro D xs W hD hx ⟨⟨v, hi3, hO, hV⟩, hk⟩ hK
    have c3 := hi3.cell 0
    simp at c3
    have HKd := Lib.hid hK
    have Hk := Lib.hid hk
    have HE : Hid (vals xs = cs) := Lib.hid hx
    have HO := Lib.hid hO
    have HV := Lib.hid hV
    clear hK hk hi3 hx hO hV
    gi_wp2_with (fail)
    refine ⟨by simp, .inl ⟨_, _, rfl, run_takeDeferred HKd.out, ?_⟩⟩
    exact ⟨_, results_tmp rfl _ _ _, ⟨v, rfl, by rw [← HE.out]; exact Sp.own_put HO.out D _ _ HKd.out rfl, HV.out, kept_put Hk.out D _ (Nat.le_trans Hk5.out.more hD)⟩⟩
  case stop =>
    rintro D c pre W _ _ h _
    exact h.elim
end Go.Proofs.YtagmmbkgjomdlaaGreatDoor.Wk

/-
  The contract of walk's Count.
-/
namespace Go.Proofs.YtagmmbkgjomdlaaGreatDoor.Wk
open Go.RowKit Go.Proofs.YtagmmbkgjomdlaaGreatDoor.Ar Go.Proofs.YtagmmbkgjomdlaaGreatDoor.Lk Go.Shelf Go.Sort Go.Proofs.YtagmmbkgjomdlaaGreatDoor.Sp
open Go.Proofs.YtagmmbkgjomdlaaGreatDoor.Hd (Hd Fields)
open Go.Proofs.YtagmmbkgjomdlaaGreatDoor.Tb (Ty Tab)
set_option linter.unusedVariables false
attribute [local go_sem] Oper.semAt_some

/-- How many cells of each kind, and their granules. -/
structure Tal where
  o : Int
  f : Int
  r : Int
  u : Int
  e : Int
  l : Int
deriving DecidableEq
namespace Tal
def enc (t : Tal) : List Value := [.int .i64 t.o, .int .i64 t.f, .int .i64 t.r, .int .i64 t.u, .int .i64 t.e, .int .i64 t.l]
def add (t : Tal) (c : Cel) : Tal := if c.h.tg = 1 then ⟨t.o + 1, t.f, t.r, t.u + c.h.sz, t.e, t.l⟩ else if c.h.tg = 2 then ⟨t.o, t.f + 1, t.r, t.u, t.e, t.l + c.h.sz⟩ else ⟨t.o, t.f, t.r + 1, t.u, t.e + c.h.sz, t.l⟩
def zero : Tal := ⟨0, 0, 0, 0, 0, 0⟩
def In (t : Tal) (n : Int) : Prop := (0 ≤ t.o ∧ t.o ≤ n) ∧ (0 ≤ t.f ∧ t.f ≤ n) ∧ (0 ≤ t.r ∧ t.r ≤ n) ∧ (0 ≤ t.u ∧ t.u ≤ 32768 * n) ∧ (0 ≤ t.e ∧ t.e ≤ 32768 * n) ∧ (0 ≤ t.l ∧ t.l ≤ 32768 * n)
end Tal
def tally (cs : List Cel) : Tal := cs.foldl Tal.add Tal.zero
theorem tally_snoc (cs : List Cel) (c : Cel) : tally (cs ++ [c]) = (tally cs).add c := by simp [tally]
theorem tally_in : ∀ (n : Nat) (cs : List Cel), cs.length = n → (∀ c ∈ cs, 1 ≤ c.h.sz ∧ c.h.sz ≤ 32768) → (tally cs).In n := by
  intro n
  induction n with
  | zero => intro cs hc _; obtain rfl := List.length_eq_zero_iff.1 hc; simp [tally, Tal.In, Tal.zero]
  | succ n ih =>
    intro cs hc h
    obtain ⟨a, c, rfl⟩ : ∃ a c, cs = a ++ [c] := by
      refine ⟨cs.dropLast, cs.getLast (by intro e; simp [e] at hc), (List.dropLast_concat_getLast _).symm⟩
    have hi := ih a (by simpa using hc) fun d hd => h d (by simp [hd])
    obtain ⟨h1, h2⟩ := h c (by simp)
    rw [tally_snoc]
    generalize tally a = t at *
    unfold Tal.In at hi ⊢
    unfold Tal.add
    split
    · simp only; omega
    · split
      · simp only; omega
      · simp only; omega
theorem scans_cell {ws : List Int} {l : List Ty} {cs : List Cel} (hC : Scans ws l 0 cs) (hb : gran ws ≤ 32768) : ∀ c ∈ cs, (0 ≤ c.a ∧ c.a + c.h.sz ≤ gran ws) ∧ (1 ≤ c.h.sz ∧ c.h.sz ≤ 32768) ∧ (c.h.tg = 1 ∨ c.h.tg = 2 ∨ c.h.tg = 3) ∧ c.h.can := by
  intro c hc
  obtain ⟨h1, h2⟩ := hC.mem c hc
  obtain ⟨a, b, d, e⟩ := cellB_facts h1
  rw [← h2] at b d e
  have e : c.a + c.h.sz ≤ gran ws := e
  refine ⟨⟨a, e⟩, ⟨d, by omega⟩, ?_, b⟩
  rcases b.2 with h | ⟨h | h, _⟩
  · exact .inl h.1
  · exact .inr (.inl h)
  · exact .inr (.inr h)
theorem size_tally : (Tryz.prog.info? 53).map (·.size) = some 6 := by kernel_rfl
theorem cells6 {w : World} {b : Nat} {t : TypeId} {v0 v1 v2 v3 v4 v5 : Value} (h : Has w b t [v0, v1, v2, v3, v4, v5]) : w.cell? ⟨b, 0, none⟩ = some v0 ∧ w.cell? ⟨b, 1, none⟩ = some v1 ∧ w.cell? ⟨b, 2, none⟩ = some v2 ∧ w.cell? ⟨b, 3, none⟩ = some v3 ∧ w.cell? ⟨b, 4, none⟩ = some v4 ∧ w.cell? ⟨b, 5, none⟩ = some v5 :=
  ⟨h.cell 0, h.cell 1, h.cell 2, h.cell 3, h.cell 4, h.cell 5⟩
theorem free6 {w : World} {b : Nat} {t : TypeId} {cs : List Value} (h : Has w b t cs) : w.frozen? ⟨b, 0, none⟩ = false ∧ w.frozen? ⟨b, 1, none⟩ = false ∧ w.frozen? ⟨b, 2, none⟩ = false ∧ w.frozen? ⟨b, 3, none⟩ = false ∧ w.frozen? ⟨b, 4, none⟩ = false ∧ w.frozen? ⟨b, 5, none⟩ = false :=
  ⟨h.free 0, h.free 1, h.free 2, h.free 3, h.free 4, h.free 5⟩
def put6 (b : Nat) (v0 v1 v2 v3 v4 v5 : Value) (w : World) : World := (((((w.setCell ⟨b, 0, none⟩ v0).setCell ⟨b, 1, none⟩ v1).setCell ⟨b, 2, none⟩ v2).setCell ⟨b, 3, none⟩ v3).setCell ⟨b, 4, none⟩ v4).setCell ⟨b, 5, none⟩ v5
theorem put6_has {b : Nat} {t : TypeId} {w : World} {a0 a1 a2 a3 a4 a5 : Value} (h : Has w b t [a0, a1, a2, a3, a4, a5]) (v0 v1 v2 v3 v4 v5 : Value) : Has (put6 b v0 v1 v2 v3 v4 v5 w) b t [v0, v1, v2, v3, v4, v5] := (((((h.put 0 v0).put 1 v1).put 2 v2).put 3 v3).put 4 v4).put 5 v5
theorem put6_kept {b : Nat} {S : List Nat} {w0 w : World} (h : Kept S w0 w) (hb : b ∈ S ∨ w0.heap.size ≤ b) (v0 v1 v2 v3 v4 v5 : Value) : Kept S w0 (put6 b v0 v1 v2 v3 v4 v5 w) :=
  (((((h.setCell ⟨b, 0, none⟩ v0 hb).setCell ⟨b, 1, none⟩ v1 hb).setCell ⟨b, 2, none⟩ v2 hb).setCell ⟨b, 3, none⟩ v3 hb).setCell ⟨b, 4, none⟩ v4 hb).setCell ⟨b, 5, none⟩ v5 hb
theorem put6_heap {b D : Nat} {w : World} {o : Obj} {v0 v1 v2 v3 v4 v5 : Value} (h : w.heap[D]? = some o) (hb : D ≠ b) : (put6 b v0 v1 v2 v3 v4 v5 w).heap[D]? = some o :=
  ((put6_kept (S := [b]) (Kept.refl _ w) (.inl (by simp)) v0 v1 v2 v3 v4 v5).old D (Array.getElem?_eq_some_iff.1 h).1 (by simpa using hb)).trans h
theorem ownAt_int {W : World} {b : Nat} {t : TypeId} {k : IntKind} {n : Int} {rest : List Value} (h : Has W b t (.int k n :: rest)) : ownAt W b = none := by
  unfold ownAt
  rw [h.cell 0]
  rfl
/-- Boxes of numbers only have turned. -/
theorem Kpn.ints {S : List Nat} {A B : World} (k : Kept S A B) (ha : ∀ b ∈ S, ownAt A b = none) (hb : ∀ b ∈ S, ownAt B b = none) : Kpn S A B :=
  ⟨k.more, fun i o hi _ ho _ => (k.old i (Array.getElem?_eq_some_iff.1 ho).1 hi).trans ho, fun b h => .inl ((hb b h).trans (ha b h).symm)⟩

set_option maxRecDepth 100000 in
set_option maxHeartbeats 4000000 in
theorem count_ok {w : World} {p pa pt : Option Addr} {l : List Ty} {ws : List Int} {cs : List Cel} (hs : From w p pa pt) (hg : Good w pa pt l ws) (hC : Scans ws l 0 cs) :
    Calls Tryz.prog 20 #[.pointer p] w fun e w' => e = .returned (.agg (tally cs).enc.toArray) ∧ Kept [] w w' := by
  have hcl := most_of hg hC
  have hcs := scans_cell hC hg.bound.2
  have Hcs := Lib.hid hcs
  have HFr := Lib.hid hs
  have HGd := Lib.hid hg
  have HC := Lib.hid hC
  clear hs hg hC hcs
  refine (callsIn_wide (n := 5)).1 ?_
  refine callsIn_of_wp_marks Tryz.func20 rfl trivial ?_ rfl
  simp only [Tryz.ntmps20, List.size_toArray, List.length_cons, List.length_nil, Nat.reduceAdd, Nat.reduceSub, Array.replicate_succ, Array.replicate_zero, List.push_toArray, List.append_toArray, List.nil_append, List.cons_append]
  gi_wp2_with (fail)
  have hk2 : Kept [] w ((w.alloc (.cells #[.int .i64 0, .int .i64 0, .int .i64 0, .int .i64 0, .int .i64 0, .int .i64 0] 53)).alloc (.cells #[.int .i64 0, .int .i64 0, .int .i64 0, .int .i64 0, .int .i64 0, .int .i64 0] 53)) := ((Kept.refl [] w).alloc _).alloc _
  have h2 : Has ((w.alloc (.cells #[.int .i64 0, .int .i64 0, .int .i64 0, .int .i64 0, .int .i64 0, .int .i64 0] 53)).alloc (.cells #[.int .i64 0, .int .i64 0, .int .i64 0, .int .i64 0, .int .i64 0, .int .i64 0] 53)) w.heap.size 53 [.int .i64 0, .int .i64 0, .int .i64 0, .int .i64 0, .int .i64 0, .int .i64 0] := (Has.new w 53 [.int .i64 0, .int .i64 0, .int .i64 0, .int .i64 0, .int .i64 0, .int .i64 0]).alloc _
  have h3 : Has ((w.alloc (.cells #[.int .i64 0, .int .i64 0, .int .i64 0, .int .i64 0, .int .i64 0, .int .i64 0] 53)).alloc (.cells #[.int .i64 0, .int .i64 0, .int .i64 0, .int .i64 0, .int .i64 0, .int .i64 0] 53)) (w.heap.size + 1) 53 [.int .i64 0, .int .i64 0, .int .i64 0, .int .i64 0, .int .i64 0, .int .i64 0] := by
    have := Has.new (w.alloc (.cells #[.int .i64 0, .int .i64 0, .int .i64 0, .int .i64 0, .int .i64 0, .int .i64 0] 53)) 53 [.int .i64 0, .int .i64 0, .int .i64 0, .int .i64 0, .int .i64 0, .int .i64 0]
    rwa [World.size_alloc] at this
  obtain ⟨w2, hw2⟩ : ∃ w2, (w.alloc (.cells #[.int .i64 0, .int .i64 0, .int .i64 0, .int .i64 0, .int .i64 0, .int .i64 0] 53)).alloc (.cells #[.int .i64 0, .int .i64 0, .int .i64 0, .int .i64 0, .int .i64 0, .int .i64 0] 53) = w2 := ⟨_, rfl⟩
  rw [hw2] at hk2 h2 h3 ⊢
  clear hw2
  have H20 := Lib.hid h2
  have H30 := Lib.hid h3
  have Hkw := Lib.hid hk2
  clear h2 h3 hk2
  refine ⟨trivial, (callsIn_wide.2 (HFr.out.ar _ Hkw.out)).mono ?_⟩
  rintro e z ⟨rfl, rfl⟩
  gi_wp2_with (fail)
  refine ⟨trivial, (callsIn_wide.2 (HFr.out.tb _ Hkw.out)).mono ?_⟩
  rintro e z ⟨rfl, rfl⟩
  gi_wp2_with (fail)
  refine ⟨trivial, (callsIn_wide.2 (wcells_ok pa pt _)).mono ?_⟩
  rintro e w5 ⟨rfl, hw5⟩
  have hk5 : Kept [] w2 w5 := by rw [hw5]; exact ((Kept.refl [] w2).alloc _).alloc _
  have hb5 : Has w5 w2.heap.size 62 [.pointer pa] := by rw [hw5]; exact (Has.new w2 _ _).alloc _
  have hg5 : Has w5 (w2.heap.size + 1) 64 [.pointer pt] := by
    rw [hw5]
    have := Has.new (w2.alloc (.cells #[.pointer pa] 62)) 64 [.pointer pt]
    rwa [World.size_alloc] at this
  have hl5 := H30.out.keep0 hk5
  have Hk5 := Lib.hid (Hkw.out.trans hk5)
  have Hb5 := Lib.hid hb5
  have Hg5 := Lib.hid hg5
  have Hl5 := Lib.hid hl5
  have Hm5 := Lib.hid (H20.out.keep0 hk5)
  have HSb : Hid (Boxes w5 [w.heap.size + 1]) := Lib.hid ⟨fun b hb => by rw [List.mem_singleton.1 hb]; exact ⟨_, _, hl5, by decide⟩, fun b hb => by rw [List.mem_singleton.1 hb]; exact ownAt_int hl5, fun b hb => by rw [List.mem_singleton.1 hb]; have := HGd.out.1.lt; omega⟩
  have Hlt5 := Lib.hid hl5.lt
  clear hk5 hb5 hg5 hw5 hl5 Hkw H30 H20
  obtain ⟨ba, hba⟩ : ∃ ba, w2.heap.size = ba := ⟨_, rfl⟩
  obtain ⟨bb, hbb⟩ : ∃ bb, w2.heap.size + 1 = bb := ⟨_, rfl⟩
  rw [hbb] at Hg5 ⊢
  rw [hba] at Hb5 ⊢
  clear hba hbb
  gi_wp2_with (fail)
  refine wpIn_rangeFunc_ownH rfl (by decide) (gf := 96) (lb := #[.pointer (some ⟨ba, 0, none⟩), .pointer (some ⟨bb, 0, none⟩)]) rfl trivial (enters_of Tryz.func96 (by kernel_rfl) rfl)
    (wcells_stops 4 (by decide) [w.heap.size + 1] ba bb pa pt l ws cs w5 Hb5.out Hg5.out (HGd.out.keep0 Hk5.out) HC.out HSb.out)
    (fun h k => h.trans k) (fun W l o o' hl h hc _ => Kpn.put (fun b hb => by rw [List.mem_singleton.1 hb]; exact Hlt5.out) W l o o' hl h hc) (Below.refl _ _) (fun _ => rfl)
    (fun pre W => (Has W (w.heap.size + 1) 53 (tally (vals pre)).enc ∧ Has W w.heap.size 53 [.int .i64 0, .int .i64 0, .int .i64 0, .int .i64 0, .int .i64 0, .int .i64 0]) ∧ Kept [] w W)
    (fun _ _ _ => False)
    (OwnFrom.and (OwnFrom.and (fun pre X Y row hs hg hr => own_has (β := Unit) (f := fun _ => (tally (vals pre)).enc) () X Y row hs hg hr) (fun pre X Y row hs hg hr => own_has (β := Unit) (f := fun _ => [.int .i64 0, .int .i64 0, .int .i64 0, .int .i64 0, .int .i64 0, .int .i64 0]) () X Y row hs hg hr)) (own_kept Hk5.out.more))
    (fun _ _ _ _ _ hs _ _ => hs)
    ⟨⟨Hl5.out, Hm5.out⟩, Hk5.out⟩
    (fun x a' W => ∃ Bx, Has W Bx 78 [.int .i64 x.1.a, .int .u8 x.1.h.tg, .int .i64 x.1.h.ty, .int .i64 x.1.h.ln, .int .i64 x.1.h.sz] ∧ a' = { tmps := #[.pointer p, undef, .pointer (some ⟨w.heap.size, 0, none⟩), .pointer (some ⟨w.heap.size + 1, 0, none⟩), .pointer (some ⟨Bx, 0, none⟩), .pointer p, .pointer pa, .pointer p, .pointer pt, .func (.func 96) #[] #[.pointer (some ⟨ba, 0, none⟩), .pointer (some ⟨bb, 0, none⟩)], .agg #[.int .i64 x.1.a, .int .u8 x.1.h.tg, .int .i64 x.1.h.ty, .int .i64 x.1.h.ln, .int .i64 x.1.h.sz], undef, undef, undef, undef, undef, undef, undef, undef, undef, undef, undef, undef, undef, undef, undef, undef, undef, undef, undef, undef, undef, undef, undef, undef, undef, undef, undef, undef, undef, undef, undef, undef, undef, undef, undef, undef, undef, undef, undef, undef, undef, undef, undef], defers := [] })
    (fun x a' _ X Y row hs hg hr => by
      obtain ⟨Bx, h2, h3⟩ := hs
      exact ⟨Bx, own_has (β := Unit) (f := fun _ => [.int .i64 x.1.a, .int .u8 x.1.h.tg, .int .i64 x.1.h.ty, .int .i64 x.1.h.ln, .int .i64 x.1.h.sz]) () X Y row h2 hg hr, h3⟩)
    ?assign ?body ?done ?stop
  case assign =>
    rintro l pre x W K ⟨⟨hi3, hi2⟩, hk⟩ hK
    unfold encs
    have HK := Lib.hid hK
    have HI := Lib.hid hi3
    have HI2 := Lib.hid hi2
    have Hk := Lib.hid hk
    clear hi3 hi2 hk hK
    gi_wp2
    have hkn : Kept [] W (W.alloc (.cells #[.int .i64 x.1.a, .int .u8 x.1.h.tg, .int .i64 x.1.h.ty, .int .i64 x.1.h.ln, .int .i64 x.1.h.sz] 78)) := (Kept.refl [] W).alloc _
    exact HK.out _ _ (keepsFrom_of hkn (by simp)) (Kpn.ofKept hkn (fun b hb => by rw [List.mem_singleton.1 hb]; exact HI.out.lt)) ⟨⟨HI.out.keep0 hkn, HI2.out.keep0 hkn⟩, Hk.out.trans hkn⟩ ⟨W.heap.size, Has.new W _ _, rfl⟩
  case body =>
    rintro l pre y a' W _ _ ⟨⟨hi3, hi2⟩, hk⟩ ⟨Bx, hX, rfl⟩ hlen
    have hsn := vals_snoc pre y
    have hos := tally_snoc (vals pre) y.1
    rw [← hsn] at hos
    have hlv : (vals pre).length = pre.length := List.length_map _
    have hti := tally_in _ (vals pre) rfl (fun c hc => by
      obtain ⟨x, hx, rfl⟩ := List.mem_map.1 hc
      exact (Hcs.out _ x.2).2.1)
    obtain ⟨_, hysz, hytg, _⟩ := Hcs.out _ y.2
    have hle : ((vals pre).length : Int) ≤ 32768 := by omega
    clear hsn
    obtain ⟨⟨ca, ⟨ct, cy, cl, cz⟩⟩, hy⟩ := y
    simp only at hos hX hysz hytg
    obtain ⟨x0, x1, x2, x3, x4⟩ := cells5 hX
    generalize (vals pre).length = nv at *
    generalize tally (vals pre) = tt at *
    obtain ⟨t0, t1, t2, t3, t4, t5⟩ := tt
    unfold Tal.In at hti
    simp only at hti
    unfold Tal.enc at hi3
    simp only at hi3
    obtain ⟨c0, c1, c2, c3, c4, c5⟩ := cells6 hi3
    obtain ⟨f0, f1, f2, f3, f4, f5⟩ := free6 hi3
    have w0 : IntKind.i64.wrap (t0 + 1) = t0 + 1 := by rw [IntKind.wrap_i64]; omega
    have w1 : IntKind.i64.wrap (t1 + 1) = t1 + 1 := by rw [IntKind.wrap_i64]; omega
    have w2 : IntKind.i64.wrap (t2 + 1) = t2 + 1 := by rw [IntKind.wrap_i64]; omega
    have w3 : IntKind.i64.wrap (t3 + cz) = t3 + cz := by rw [IntKind.wrap_i64]; omega
    have w4 : IntKind.i64.wrap (t4 + cz) = t4 + cz := by rw [IntKind.wrap_i64]; omega
    have w5' : IntKind.i64.wrap (t5 + cz) = t5 + cz := by rw [IntKind.wrap_i64]; omega
    have Hos := Lib.hid hos
    have Hk := Lib.hid hk
    have H3' := Lib.hid hi3
    have H2' := Lib.hid hi2
    have Hty := Lib.hid hytg
    clear hk hlen hX hos hi2 hi3 hti hysz hlv hle hytg
    dsimp only
    rcases Hty.out with ht | ht | ht
    · subst ht
      gi_wp2_with (fail)
      have hKS : Kept [w.heap.size + 1] W ((W.setCell ⟨w.heap.size + 1, 0, none⟩ (.int .i64 (t0 + 1))).setCell ⟨w.heap.size + 1, 3, none⟩ (.int .i64 (t3 + cz))) := ((Kept.refl _ W).setCell _ _ (.inl (by simp))).setCell _ _ (.inl (by simp))
      have hb3 := (H3'.out.put 0 (.int .i64 (t0 + 1))).put 3 (.int .i64 (t3 + cz))
      exact ⟨keepsFrom_of hKS (fun b hb => by rw [List.mem_singleton.1 hb]; exact ⟨_, _, H3'.out⟩), Kpn.ints hKS (fun b hb => by rw [List.mem_singleton.1 hb]; exact ownAt_int H3'.out) (fun b hb => by rw [List.mem_singleton.1 hb]; exact ownAt_int hb3), ⟨by rw [Hos.out]; exact hb3, H2'.out.kept hKS (by simp)⟩, Hk.out.forget hKS (by simp)⟩
    · subst ht
      gi_wp2_with (fail)
      have hKS : Kept [w.heap.size + 1] W ((W.setCell ⟨w.heap.size + 1, 1, none⟩ (.int .i64 (t1 + 1))).setCell ⟨w.heap.size + 1, 5, none⟩ (.int .i64 (t5 + cz))) := ((Kept.refl _ W).setCell _ _ (.inl (by simp))).setCell _ _ (.inl (by simp))
      have hb3 := (H3'.out.put 1 (.int .i64 (t1 + 1))).put 5 (.int .i64 (t5 + cz))
      exact ⟨keepsFrom_of hKS (fun b hb => by rw [List.mem_singleton.1 hb]; exact ⟨_, _, H3'.out⟩), Kpn.ints hKS (fun b hb => by rw [List.mem_singleton.1 hb]; exact ownAt_int H3'.out) (fun b hb => by rw [List.mem_singleton.1 hb]; exact ownAt_int hb3), ⟨by rw [Hos.out]; exact hb3, H2'.out.kept hKS (by simp)⟩, Hk.out.forget hKS (by simp)⟩
    · subst ht
      gi_wp2_with (fail)
      have hKS : Kept [w.heap.size + 1] W ((W.setCell ⟨w.heap.size + 1, 2, none⟩ (.int .i64 (t2 + 1))).setCell ⟨w.heap.size + 1, 4, none⟩ (.int .i64 (t4 + cz))) := ((Kept.refl _ W).setCell _ _ (.inl (by simp))).setCell _ _ (.inl (by simp))
      have hb3 := (H3'.out.put 2 (.int .i64 (t2 + 1))).put 4 (.int .i64 (t4 + cz))
      exact ⟨keepsFrom_of hKS (fun b hb => by rw [List.mem_singleton.1 hb]; exact ⟨_, _, H3'.out⟩), Kpn.ints hKS (fun b hb => by rw [List.mem_singleton.1 hb]; exact ownAt_int H3'.out) (fun b hb => by rw [List.mem_singleton.1 hb]; exact ownAt_int hb3), ⟨by rw [Hos.out]; exact hb3, H2'.out.kept hKS (by simp)⟩, Hk.out.forget hKS (by simp)⟩
  case done =>
    rintro D xs W hD hx ⟨⟨hi3, hi2⟩, hk⟩ hK
    have HKd := Lib.hid hK
    have Hk := Lib.hid hk
    have HE : Hid (vals xs = cs) := Lib.hid hx
    generalize vals xs = P at *
    obtain ⟨tt, htt⟩ : ∃ tt, tt = tally P := ⟨_, rfl⟩
    rw [← htt] at hi3
    have HT := Lib.hid htt
    clear htt
    obtain ⟨t0, t1, t2, t3, t4, t5⟩ := tt
    unfold Tal.enc at hi3
    simp only at hi3
    obtain ⟨c0, c1, c2, c3, c4, c5⟩ := cells6 hi3
    obtain ⟨f0, f1, f2, f3, f4, f5⟩ := free6 hi2
    obtain ⟨d0, d1, d2, d3, d4, d5⟩ := cells6 hi2
    have H3' := Lib.hid hi3
    have H2' := Lib.hid hi2
    clear hK hk hi3 hi2 hx
    gi_wp2_with (fail)
    have hks := put6_kept Hk.out (b := w.heap.size) (.inr (Nat.le_refl _)) (.int .i64 t0) (.int .i64 t1) (.int .i64 t2) (.int .i64 t3) (.int .i64 t4) (.int .i64 t5)
    have hbs := put6_has H2'.out (.int .i64 t0) (.int .i64 t1) (.int .i64 t2) (.int .i64 t3) (.int .i64 t4) (.int .i64 t5)
    have HKd6 := put6_heap (v0 := .int .i64 t0) (v1 := .int .i64 t1) (v2 := .int .i64 t2) (v3 := .int .i64 t3) (v4 := .int .i64 t4) (v5 := .int .i64 t5) HKd.out (b := w.heap.size) (Nat.ne_of_gt (Nat.lt_of_lt_of_le (Nat.lt_of_lt_of_le (Nat.lt_succ_self _) (Nat.le_of_lt_succ (Nat.lt_succ_of_lt Hlt5.out))) hD))
    refine ⟨by simp, .inl ⟨_, _, rfl, run_takeDeferred HKd6, ?_⟩⟩
    have hH : Has ((put6 w.heap.size (.int .i64 t0) (.int .i64 t1) (.int .i64 t2) (.int .i64 t3) (.int .i64 t4) (.int .i64 t5) W).putObj D (.deferred none)) w.heap.size 53 [.int .i64 t0, .int .i64 t1, .int .i64 t2, .int .i64 t3, .int .i64 t4, .int .i64 t5] :=
      own_has (β := Unit) (f := fun _ => [.int .i64 t0, .int .i64 t1, .int .i64 t2, .int .i64 t3, .int .i64 t4, .int .i64 t5]) (B := 0) () _ _ (some D) hbs (grownBy_putObj' _ D _) fun r e => by injection e with e; subst e; exact ⟨Nat.zero_le _, _, HKd6, rfl⟩
    exact ⟨_, results_cell_row rfl _ _ w.heap.size 53 #[.int .i64 t0, .int .i64 t1, .int .i64 t2, .int .i64 t3, .int .i64 t4, .int .i64 t5] (0, 0) _ rfl hH Tryz.underlying53 rfl size_tally, by rw [← HE.out, ← HT.out]; rfl, kept_put hks D _ (Nat.le_trans Hk5.out.more hD)⟩
  case stop =>
    rintro D c pre W _ _ h _
    exact h.elim
end Go.Proofs.YtagmmbkgjomdlaaGreatDoor.Wk

/-
  The document's begins, of a row of cells.
-/
namespace Go.Proofs.YtagmmbkgjomdlaaGreatDoor.Wk
open Go.RowKit Go.Proofs.YtagmmbkgjomdlaaGreatDoor.Ar Go.Proofs.YtagmmbkgjomdlaaGreatDoor.Sp
open Go.Proofs.YtagmmbkgjomdlaaGreatDoor.Hd (Hd)
set_option linter.unusedVariables false

/-- Does an object begin there? -/
def beg (cs : List Cel) (g : Int) : Bool := cs.any fun c => decide (c.a = g) && decide (c.h.tg = 1)
set_option maxRecDepth 100000 in
set_option maxHeartbeats 2000000 in
theorem dbegins_ok {w : World} {A : Option Addr} {c : Nat} (cs : List Cel) (hA : Sp.Seen w A cs) (hlen : cs.length ≤ 32768) (g : Int) :
    Calls Tryz.prog 105 #[.slice A cs.length c, .int .i64 g] w fun e w' => e = .returned (.bool (beg cs g)) ∧ w = w' := by
  have HA := Lib.hid hA
  have H0 : Hid (beg (cs.take 0) g = false) := Lib.hid rfl
  obtain ⟨bb, hbb⟩ : ∃ bb, bb = beg cs g := ⟨_, rfl⟩
  rw [← hbb]
  have HB := Lib.hid hbb
  clear hA hbb
  go_enter Tryz.func105, Tryz.ntmps105
  go_wp2_with fail
  go_loop [5] (fun t => ∃ j : Nat, t = .int .i64 (j : Int) ∧ j ≤ cs.length ∧ Hid (beg (cs.take j) g = false)) (fun t => cs.length - (intOf t).toNat)
  case atStart => exact ⟨0, rfl, Nat.zero_le _, H0⟩
  case round =>
    obtain ⟨j, rfl, hj, hr⟩ := hrel
    clear H0
    by_cases hlt : j < cs.length
    · obtain ⟨gb, o, rfl, hg, c0, c1, c2, c3, c4⟩ := HA.out.at j hlt _ rfl
      have htk : beg (cs.take (j + 1)) g = (beg (cs.take j) g || (decide ((cs.getD j Cel.zero).a = g) && decide ((cs.getD j Cel.zero).h.tg = 1))) := by
        rw [cel_take hlt]
        unfold beg
        rw [List.any_append]
        simp
      have hal : (decide ((cs.getD j Cel.zero).a = g) && decide ((cs.getD j Cel.zero).h.tg = 1)) = true → beg cs g = true := fun h => List.any_eq_true.2 ⟨_, cel_mem hlt, h⟩
      generalize cs.getD j Cel.zero = x at *
      obtain ⟨xa, ⟨xt, xy, xl, xz⟩⟩ := x
      rw [hr.out, Bool.false_or] at htk
      have htk := Lib.hid htk
      have hal := Lib.hid hal
      clear hr
      simp only at htk hal c0 c1 c2 c3 c4
      by_cases ha : xa = g
      · have hq : (xa == g) = true := by simpa using ha
        by_cases ht : xt = 1
        · have hq2 : (xt == 1) = true := by simpa using ht
          have hfin : Hid (bb = true) := Lib.hid (by rw [HB.out]; exact hal.out (by simp [ha, ht]))
          clear ha ht hal htk HB
          go_wp2_with fail
          go_ret
          exact ⟨by rw [hfin.out]; rfl, rfl⟩
        · have hq2 : (xt == 1) = false := by simpa using ht
          have HN : Hid (beg (cs.take (j + 1)) g = false) := Lib.hid (by rw [htk.out]; simp [ht])
          clear ha ht hal htk
          go_wp2_with fail
          go_round
          case rel => exact ⟨j + 1, by go_num, by omega, HN⟩
          case measure => simp [intOf] <;> omega
      · have hq : (xa == g) = false := by simpa using ha
        have HN : Hid (beg (cs.take (j + 1)) g = false) := Lib.hid (by rw [htk.out]; simp [ha])
        clear ha hal htk
        go_wp2_with fail
        go_round
        case rel => exact ⟨j + 1, by go_num, by omega, HN⟩
        case measure => simp [intOf] <;> omega
    · obtain rfl : j = cs.length := by omega
      have hfin : Hid (bb = false) := Lib.hid (by
        have h := hr.out
        rw [List.take_length] at h
        rw [HB.out, h])
      clear hr HB
      go_wp2_with fail
      go_ret
      exact ⟨by rw [hfin.out]; rfl, rfl⟩
end Go.Proofs.YtagmmbkgjomdlaaGreatDoor.Wk

/-
  The document's target: to which object a word leads.
-/
namespace Go.Proofs.YtagmmbkgjomdlaaGreatDoor.Wk
open Go.RowKit Go.Proofs.YtagmmbkgjomdlaaGreatDoor.Ar Go.Proofs.YtagmmbkgjomdlaaGreatDoor.Sp
open Go.Proofs.YtagmmbkgjomdlaaGreatDoor.Sh (wordR wordB dword_ok)
set_option linter.unusedVariables false

def tgt (cs : List Cel) (u : Int) : Int := if wordB u = true ∧ wordR u % 2 = 0 ∧ beg cs (wordR u / 2) = true then wordR u / 2 else -1
set_option maxRecDepth 100000 in
set_option maxHeartbeats 2000000 in
theorem dtarget_ok {w : World} {A : Option Addr} {c : Nat} (cs : List Cel) (hA : Sp.Seen w A cs) (hlen : cs.length ≤ 32768) (u : Int) (h0 : 0 ≤ u) (h1 : u < 18446744073709551616) :
    Calls Tryz.prog 54 #[.slice A cs.length c, .int .u64 u] w fun e w' => e = .returned (.int .i64 (tgt cs u)) ∧ w = w' := by
  have HW := Lib.hid (dword_ok (w := w) u h0 h1)
  have HBg := Lib.hid (dbegins_ok (c := c) cs hA hlen (wordR u / 2))
  have hT : tgt cs u = if wordB u = true ∧ wordR u % 2 = 0 ∧ beg cs (wordR u / 2) = true then wordR u / 2 else -1 := rfl
  have hn : 0 ≤ wordR u ∧ wordR u ≤ 65536 := by
    unfold wordR
    split <;> omega
  generalize tgt cs u = T at *
  generalize wordR u = n at *
  have hq : n.tdiv 2 = n / 2 := Int.tdiv_eq_ediv_of_nonneg hn.1
  have hm : n.tmod 2 = n % 2 := Int.tmod_eq_emod_of_nonneg hn.1
  have HT := Lib.hid hT
  clear hA hT
  obtain ⟨n0, n1⟩ := hn
  cases hb : wordB u with
  | false =>
    rw [hb] at HW
    have HF : Hid (T = -1) := Lib.hid (by rw [HT.out, if_neg (by rw [hb]; simp)])
    clear HT hb hq hm HBg
    go_enter Tryz.func54, Tryz.ntmps54
    go_wp2_with fail
    refine HW.out.mono ?_
    rintro e w1 ⟨rfl, rfl⟩
    go_wp2_with fail
    go_ret
    exact ⟨by rw [HF.out]; rfl, rfl⟩
  | true =>
    rw [hb] at HW
    generalize hbeg : beg cs (n / 2) = bg at *
    have hm1 : IntKind.i64.wrap (n.tmod 2) = n % 2 := by rw [hm, IntKind.wrap_i64]; omega
    have hq1 : IntKind.i64.wrap (n.tdiv 2) = n / 2 := by rw [hq, IntKind.wrap_i64]; omega
    by_cases h2 : n % 2 = 0
    · have hz : (n % 2 != 0) = false := by simp [h2]
      cases bg with
      | false =>
        have HF : Hid (T = -1) := Lib.hid (by rw [HT.out, if_neg (by simp)])
        clear HT hb h2
        go_enter Tryz.func54, Tryz.ntmps54
        go_wp2_with fail
        refine HW.out.mono ?_
        rintro e w1 ⟨rfl, rfl⟩
        go_wp2_with fail
        refine HBg.out.mono ?_
        rintro e w1 ⟨rfl, rfl⟩
        go_wp2_with fail
        go_ret
        exact ⟨by rw [HF.out]; rfl, rfl⟩
      | true =>
        have HF : Hid (T = n / 2) := Lib.hid (by rw [HT.out, if_pos ⟨hb, h2, rfl⟩])
        clear HT hb h2
        go_enter Tryz.func54, Tryz.ntmps54
        go_wp2_with fail
        refine HW.out.mono ?_
        rintro e w1 ⟨rfl, rfl⟩
        go_wp2_with fail
        refine HBg.out.mono ?_
        rintro e w1 ⟨rfl, rfl⟩
        go_wp2_with fail
        go_ret
        exact ⟨by rw [HF.out]; rfl, rfl⟩
    · have hz : (n % 2 != 0) = true := by simpa using h2
      have HF : Hid (T = -1) := Lib.hid (by rw [HT.out, if_neg (fun h => h2 h.2.1)])
      clear HT hb h2 hbeg HBg
      go_enter Tryz.func54, Tryz.ntmps54
      go_wp2_with fail
      refine HW.out.mono ?_
      rintro e w1 ⟨rfl, rfl⟩
      go_wp2_with fail
      go_ret
      exact ⟨by rw [HF.out]; rfl, rfl⟩
end Go.Proofs.YtagmmbkgjomdlaaGreatDoor.Wk
