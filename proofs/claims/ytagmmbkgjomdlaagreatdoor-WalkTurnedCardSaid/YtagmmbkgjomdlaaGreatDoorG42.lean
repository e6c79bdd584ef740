/-
  Several texts in one: WkCheck, WkMath.
-/
import Derived.Test.YtagmmbkgjomdlaaGreatDoorG40
import Derived.Test.YtagmmbkgjomdlaaGreatDoorG41
import Derived.Test.YtagmmbkgjomdlaaGreatDoorG35
import Derived.Test.YtagmmbkgjomdlaaGreatDoorG24
/-
  The contract of walk's Check.
-/
namespace Go.Proofs.YtagmmbkgjomdlaaGreatDoor.Wk
open Go.RowKit Go.Proofs.YtagmmbkgjomdlaaGreatDoor.Ar Go.Proofs.YtagmmbkgjomdlaaGreatDoor.Lk Go.Shelf Go.Sort
open Go.Proofs.YtagmmbkgjomdlaaGreatDoor.Sp hiding Own own_from own_put back_own Seen own_cells seen_one
open Go.Proofs.YtagmmbkgjomdlaaGreatDoor.Hd (Hd Fields)
open Go.Proofs.YtagmmbkgjomdlaaGreatDoor.Tb (Ty Tab)
open Go.Proofs.YtagmmbkgjomdlaaGreatDoor.Bt (Bv)
set_option linter.unusedVariables false
attribute [local go_sem] Oper.semAt_some

/-- The faults of the starts at all cells; where the cells end. -/
def allS (bs : List Bool) (cs : List Cel) : List Tri := cs.flatMap (cF bs)
def endO : List Cel → Int
  | [] => 0
  | c :: cs => if cs = [] then c.a + c.h.sz else endO cs
theorem endO_snoc : ∀ (cs : List Cel) (c : Cel), endO (cs ++ [c]) = c.a + c.h.sz
  | [], c => by simp [endO]
  | d :: cs, c => by
    show (if cs ++ [c] = [] then _ else endO (cs ++ [c])) = _
    rw [if_neg (by simp), endO_snoc cs c]
theorem allS_len (bs : List Bool) : ∀ cs : List Cel, (∀ c ∈ cs, c.h.sz ≤ 32768) → (allS bs cs).length ≤ 32768 * cs.length
  | [], _ => by simp [allS]
  | c :: cs, h => by
    have h1 := cF_len bs c (h c (by simp))
    have h2 := allS_len bs cs fun d hd => h d (by simp [hd])
    unfold allS at h2 ⊢
    rw [List.flatMap_cons, List.length_append, List.length_cons]
    omega
theorem allS_snoc (bs : List Bool) (cs : List Cel) (c : Cel) : allS bs (cs ++ [c]) = allS bs cs ++ cF bs c := by simp [allS]
theorem allS_scan {ws : List Int} {l : List Ty} (bs : List Bool) : ∀ {cs : List Cel} {g : Int}, Scans ws l g cs → cs = [] ∨ ((allS bs cs).length : Int) ≤ (ws.length : Int) / 2 - g
  | [], g, h => .inl rfl
  | c :: cs, g, h => by
    obtain ⟨h1, h2, h3⟩ := h
    obtain ⟨a, _, d, e⟩ := cellB_facts h1
    have hch : c.h = Sh.hdH ws g := by rw [h2]
    have h4 : (cF bs c).length ≤ c.h.sz.toNat := sF_len bs c.a c.h.tg c.h.sz.toNat
    have h5 : (allS bs (c :: cs)).length = (cF bs c).length + (allS bs cs).length := by unfold allS; rw [List.flatMap_cons, List.length_append]
    rw [hch] at h4 h3
    refine .inr ?_
    rcases allS_scan bs h3 with rfl | h6
    · have : (allS bs []).length = 0 := rfl
      omega
    · omega
theorem allS_few {ws : List Int} {l : List Ty} {cs : List Cel} (bs : List Bool) (hC : Scans ws l 0 cs) (hb : gran ws ≤ 32768) : (allS bs cs).length ≤ 32768 := by
  have hb : (ws.length : Int) / 2 ≤ 32768 := hb
  rcases allS_scan bs hC with rfl | h
  · exact Nat.zero_le _
  · omega
def frmF (ws : List Int) (cs : List Cel) : List Tri := if endO cs < gran ws then [⟨endO cs, 0, 7⟩] else []
/-- All faults. -/
def chkF (ws : List Int) (l : List Ty) (bs : List Bool) (cs : List Cel) : List Tri := allS bs cs ++ frmF ws cs ++ refF (objs cs) (rfs ws l (objs cs))
theorem check_nilA (q r : Option Addr) (w : World) : Calls Tryz.prog 22 #[.pointer none, .pointer q, .pointer r] w fun e w' => e = .returned (.tuple #[.slice none 0 0, .int .i64 1]) ∧ Kept [] w w' := by
  have hk : Kept [] w (w.alloc (.cells #[.pointer r] 66)) := (Kept.refl [] w).alloc _
  have HK := Lib.hid hk
  clear hk
  go_enter Tryz.func22, Tryz.ntmps22
  go_wp2_with fail
  go_ret2
  exact ⟨rfl, HK.out⟩

set_option maxRecDepth 100000 in
set_option maxHeartbeats 4000000 in
theorem check_ok {w : World} {ap tp p q : Nat} {l : List Ty} {ws : List Int} {cs : List Cel} {bs : List Bool} (hg : Good w (some ⟨ap, 0, none⟩) (some ⟨tp, 0, none⟩) l ws) (hC : Scans ws l 0 cs) (hv : Bv w p q bs) :
    Calls Tryz.prog 22 #[.pointer (some ⟨ap, 0, none⟩), .pointer (some ⟨tp, 0, none⟩), .pointer (some ⟨p, 0, none⟩)] w fun e w' => ∃ v, e = .returned (.tuple #[v, .int .i64 0]) ∧ Own Flt w' v (chkF ws l bs cs) ∧ Sp.FreshV w v ∧ Kept [] w w' := by
  have hcl := most_of hg hC
  have Hcs := Lib.hid (scans_cell hC hg.bound.2)
  have HGd := Lib.hid hg
  have HC := Lib.hid hC
  have HV0 := Lib.hid hv
  clear hg hC hv
  refine (callsIn_wide (n := 5)).1 ?_
  refine callsIn_of_wp_marks Tryz.func22 rfl trivial ?_ rfl
  simp only [Tryz.ntmps22, List.size_toArray, List.length_cons, List.length_nil, Nat.reduceAdd, Nat.reduceSub, Array.replicate_succ, Array.replicate_zero, List.push_toArray, List.append_toArray, List.nil_append, List.cons_append]
  gi_wp2_with (fail)
  have hk2 : Kept [] w ((((w.alloc (.cells #[.pointer (some ⟨p, 0, none⟩)] 66)).alloc (.cells #[.slice none 0 0] 58)).alloc (.cells #[.slice none 0 0] 36)).alloc (.cells #[.int .i64 0] 3)) := ((((Kept.refl [] w).alloc _).alloc _).alloc _).alloc _
  have h5 : Has ((((w.alloc (.cells #[.pointer (some ⟨p, 0, none⟩)] 66)).alloc (.cells #[.slice none 0 0] 58)).alloc (.cells #[.slice none 0 0] 36)).alloc (.cells #[.int .i64 0] 3)) w.heap.size 66 [.pointer (some ⟨p, 0, none⟩)] := (((Has.new w 66 [.pointer (some ⟨p, 0, none⟩)]).alloc _).alloc _).alloc _
  have h8 : Has ((((w.alloc (.cells #[.pointer (some ⟨p, 0, none⟩)] 66)).alloc (.cells #[.slice none 0 0] 58)).alloc (.cells #[.slice none 0 0] 36)).alloc (.cells #[.int .i64 0] 3)) (w.heap.size + 1) 58 [.slice none 0 0] := by
    have := ((Has.new (w.alloc (.cells #[.pointer (some ⟨p, 0, none⟩)] 66)) 58 [.slice none 0 0]).alloc (.cells #[.slice none 0 0] 36)).alloc (.cells #[.int .i64 0] 3)
    rwa [World.size_alloc] at this
  have h9 : Has ((((w.alloc (.cells #[.pointer (some ⟨p, 0, none⟩)] 66)).alloc (.cells #[.slice none 0 0] 58)).alloc (.cells #[.slice none 0 0] 36)).alloc (.cells #[.int .i64 0] 3)) (w.heap.size + 1 + 1) 36 [.slice none 0 0] := by
    have := (Has.new ((w.alloc (.cells #[.pointer (some ⟨p, 0, none⟩)] 66)).alloc (.cells #[.slice none 0 0] 58)) 36 [.slice none 0 0]).alloc (.cells #[.int .i64 0] 3)
    rwa [World.size_alloc, World.size_alloc] at this
  have h10 : Has ((((w.alloc (.cells #[.pointer (some ⟨p, 0, none⟩)] 66)).alloc (.cells #[.slice none 0 0] 58)).alloc (.cells #[.slice none 0 0] 36)).alloc (.cells #[.int .i64 0] 3)) (w.heap.size + 1 + 1 + 1) 3 [.int .i64 0] := by
    have := Has.new (((w.alloc (.cells #[.pointer (some ⟨p, 0, none⟩)] 66)).alloc (.cells #[.slice none 0 0] 58)).alloc (.cells #[.slice none 0 0] 36)) 3 [.int .i64 0]
    rwa [World.size_alloc, World.size_alloc, World.size_alloc] at this
  obtain ⟨w2, hw2⟩ : ∃ w2, (((w.alloc (.cells #[.pointer (some ⟨p, 0, none⟩)] 66)).alloc (.cells #[.slice none 0 0] 58)).alloc (.cells #[.slice none 0 0] 36)).alloc (.cells #[.int .i64 0] 3) = w2 := ⟨_, rfl⟩
  rw [hw2] at hk2 h5 h8 h9 h10 ⊢
  clear hw2
  have H50 := Lib.hid h5
  have H80 := Lib.hid h8
  have H90 := Lib.hid h9
  have H100 := Lib.hid h10
  have Hkw := Lib.hid hk2
  clear h5 h8 h9 h10 hk2
  refine ⟨trivial, (callsIn_wide.2 (wcells_ok (some ⟨ap, 0, none⟩) (some ⟨tp, 0, none⟩) _)).mono ?_⟩
  rintro e w5 ⟨rfl, hw5⟩
  have hk5 : Kept [] w2 w5 := by rw [hw5]; exact ((Kept.refl [] w2).alloc _).alloc _
  have hb5 : Has w5 w2.heap.size 62 [.pointer (some ⟨ap, 0, none⟩)] := by rw [hw5]; exact (Has.new w2 _ _).alloc _
  have hg5 : Has w5 (w2.heap.size + 1) 64 [.pointer (some ⟨tp, 0, none⟩)] := by
    rw [hw5]
    have := Has.new (w2.alloc (.cells #[.pointer (some ⟨ap, 0, none⟩)] 62)) 64 [.pointer (some ⟨tp, 0, none⟩)]
    rwa [World.size_alloc] at this
  have hl8 := H80.out.keep0 hk5
  have hl9 := H90.out.keep0 hk5
  have hl10 := H100.out.keep0 hk5
  have Hk5 := Lib.hid (Hkw.out.trans hk5)
  have Hb5 := Lib.hid hb5
  have Hg5 := Lib.hid hg5
  have H55 := Lib.hid (H50.out.keep0 hk5)
  have H85 := Lib.hid hl8
  have H95 := Lib.hid hl9
  have H105 := Lib.hid hl10
  have HSb : Hid (Boxes w5 [w.heap.size + 1, w.heap.size + 1 + 1, w.heap.size + 1 + 1 + 1]) := Lib.hid ⟨fun b hb => by
      simp only [List.mem_cons, List.not_mem_nil, or_false] at hb
      rcases hb with rfl | rfl | rfl
      · exact ⟨_, _, hl8, by decide⟩
      · exact ⟨_, _, hl9, by decide⟩
      · exact ⟨_, _, hl10, by decide⟩, fun b hb => by
      simp only [List.mem_cons, List.not_mem_nil, or_false] at hb
      rcases hb with rfl | rfl | rfl
      · exact ownAt_has hl8
      · exact ownAt_has hl9
      · exact ownAt_has hl10, fun b hb => by
      have := HGd.out.1.lt
      simp only [List.mem_cons, List.not_mem_nil, or_false] at hb
      rcases hb with rfl | rfl | rfl <;> omega⟩
  clear hk5 hb5 hg5 hw5 hl8 hl9 hl10 Hkw H50 H80 H90 H100
  obtain ⟨ba, hba⟩ : ∃ ba, w2.heap.size = ba := ⟨_, rfl⟩
  obtain ⟨bb, hbb⟩ : ∃ bb, w2.heap.size + 1 = bb := ⟨_, rfl⟩
  rw [hbb] at Hg5 ⊢
  rw [hba] at Hb5 ⊢
  clear hba hbb
  gi_wp2_with (fail)
  refine wpIn_rangeFunc_ownH rfl (by decide) (gf := 96) (lb := #[.pointer (some ⟨ba, 0, none⟩), .pointer (some ⟨bb, 0, none⟩)]) rfl trivial (enters_of Tryz.func96 (by kernel_rfl) rfl)
    (wcells_stops 4 (by decide) [w.heap.size + 1, w.heap.size + 1 + 1, w.heap.size + 1 + 1 + 1] ba bb (some ⟨ap, 0, none⟩) (some ⟨tp, 0, none⟩) l ws cs w5 Hb5.out Hg5.out (HGd.out.keep0 Hk5.out) HC.out HSb.out)
    (fun h k => h.trans k) (fun W l o o' hl h hc _ => Kpn.put HSb.out.lt W l o o' hl h hc) (Below.refl _ _) (fun _ => rfl)
    (fun pre W => ((Has W w.heap.size 66 [.pointer (some ⟨p, 0, none⟩)]) ∧ (∃ v, Has W (w.heap.size + 1) 58 [v] ∧ Own Flt W v (allS bs (vals pre)) ∧ Sp.FreshV w v) ∧ (∃ u, Has W (w.heap.size + 1 + 1) 36 [u] ∧ Sp.Own W u (objs (vals pre)) ∧ Sp.FreshV w u) ∧ Has W (w.heap.size + 1 + 1 + 1) 3 [.int .i64 (endO (vals pre))]) ∧ Kept [] w W)
    (fun _ _ _ => False)
    (OwnFrom.and (OwnFrom.and (fun pre X Y row hs hg hr => own_has (β := Unit) (f := fun _ => [.pointer (some ⟨p, 0, none⟩)]) () X Y row hs hg hr) (OwnFrom.and (fun pre X Y row hs hg hr => by
      obtain ⟨v, h1, h2, h3⟩ := hs
      exact ⟨v, own_has (β := Unit) (f := fun _ => [v]) () X Y row h1 hg hr, own_from () X Y row h2 hg hr, h3⟩) (OwnFrom.and (fun pre X Y row hs hg hr => by
      obtain ⟨v, h1, h2, h3⟩ := hs
      exact ⟨v, own_has (β := Unit) (f := fun _ => [v]) () X Y row h1 hg hr, Sp.own_from () X Y row h2 hg hr, h3⟩) (fun pre X Y row hs hg hr => own_has (β := Unit) (f := fun _ => [.int .i64 (endO (vals pre))]) () X Y row hs hg hr)))) (own_kept Hk5.out.more))
    (fun _ _ _ _ _ hs _ _ => hs)
    ⟨⟨H55.out, ⟨_, H85.out, Own.nil _, .inl rfl⟩, ⟨_, H95.out, Sp.Own.nil _, .inl rfl⟩, H105.out⟩, Hk5.out⟩
    (fun x a' W => ∃ Bx ux, Has W Bx 78 [.int .i64 x.1.a, .int .u8 x.1.h.tg, .int .i64 x.1.h.ty, .int .i64 x.1.h.ln, .int .i64 x.1.h.sz] ∧ Has W (w.heap.size + 1 + 1) 36 [ux] ∧ ux.ownBlock ≠ some Bx ∧ a' = { tmps := #[.pointer (some ⟨ap, 0, none⟩), .pointer (some ⟨tp, 0, none⟩), .pointer (some ⟨p, 0, none⟩), undef, undef, .pointer (some ⟨w.heap.size, 0, none⟩), .slice none 0 0, .int .i64 0, .pointer (some ⟨w.heap.size + 1, 0, none⟩), .pointer (some ⟨w.heap.size + 1 + 1, 0, none⟩), .pointer (some ⟨w.heap.size + 1 + 1 + 1, 0, none⟩), .pointer (some ⟨Bx, 0, none⟩), .pointer (some ⟨ap, 0, none⟩), .bool false, .bool false, .pointer (some ⟨tp, 0, none⟩), .bool false, .bool false, .bool false, .pointer (some ⟨p, 0, none⟩), .bool false, .bool false, .pointer (some ⟨ap, 0, none⟩), .pointer (some ⟨tp, 0, none⟩), .func (.func 96) #[] #[.pointer (some ⟨ba, 0, none⟩), .pointer (some ⟨bb, 0, none⟩)], .agg #[.int .i64 x.1.a, .int .u8 x.1.h.tg, .int .i64 x.1.h.ty, .int .i64 x.1.h.ln, .int .i64 x.1.h.sz], undef, undef, undef, undef, undef, undef, undef, undef, undef, undef, undef, undef, undef, undef, undef, undef, undef, undef, undef, undef, undef, undef, undef, undef, undef, undef, undef, undef, undef, undef], defers := [] })
    (fun x a' _ X Y row hs hg hr => by
      obtain ⟨Bx, ux, h2, h3, h4⟩ := hs
      exact ⟨Bx, ux, own_has (β := Unit) (f := fun _ => [.int .i64 x.1.a, .int .u8 x.1.h.tg, .int .i64 x.1.h.ty, .int .i64 x.1.h.ln, .int .i64 x.1.h.sz]) () X Y row h2 hg hr, own_has (β := Unit) (f := fun _ => [ux]) () X Y row h3 hg hr, h4⟩)
    ?assign ?body ?done ?stop
  case assign =>
    rintro lo pre x W K ⟨⟨h5, ⟨v, h8, hO8, hV8⟩, ⟨u, h9, hO9, hV9⟩, h10⟩, hk⟩ hK
    unfold encs
    have HK := Lib.hid hK
    have H5 := Lib.hid h5
    have H8 := Lib.hid h8
    have H9 := Lib.hid h9
    have H10 := Lib.hid h10
    have HO8 := Lib.hid hO8
    have HV8 := Lib.hid hV8
    have HO9 := Lib.hid hO9
    have HV9 := Lib.hid hV9
    have Hk := Lib.hid hk
    clear h5 h8 h9 h10 hO8 hV8 hO9 hV9 hk hK
    gi_wp2
    have hkn : Kept [] W (W.alloc (.cells #[.int .i64 x.1.a, .int .u8 x.1.h.tg, .int .i64 x.1.h.ty, .int .i64 x.1.h.ln, .int .i64 x.1.h.sz] 78)) := (Kept.refl [] W).alloc _
    refine HK.out _ _ (keepsFrom_of hkn (by simp)) (Kpn.ofKept hkn (fun b hb => ?_)) ⟨⟨H5.out.keep0 hkn, ⟨v, H8.out.keep0 hkn, HO8.out.keep0 hkn, HV8.out⟩, ⟨u, H9.out.keep0 hkn, HO9.out.keep0 hkn, HV9.out⟩, H10.out.keep0 hkn⟩, Hk.out.trans hkn⟩ ⟨W.heap.size, u, Has.new W _ _, H9.out.keep0 hkn, (fun e => Nat.lt_irrefl _ (HO9.out.lt _ e)), rfl⟩
    simp only [List.mem_cons, List.not_mem_nil, or_false] at hb
    rcases hb with rfl | rfl | rfl
    · exact H8.out.lt
    · exact H9.out.lt
    · exact H10.out.lt
  case body =>
    rintro lo pre y a' W _ _ ⟨⟨h5, ⟨v, h8, hO8, hV8⟩, ⟨u, h9, hO9, hV9⟩, h10⟩, hk⟩ ⟨Bx, ux, hX, h9x, hnx, rfl⟩ hlen
    have hux : u = ux := by
      have a := h9.cell 0
      have b := h9x.cell 0
      rw [a] at b
      simpa using b
    subst hux
    have hls : (allS bs (vals pre)).length ≤ 32768 * (vals pre).length := allS_len bs (vals pre) fun c hc => by
      obtain ⟨x, _, rfl⟩ := List.mem_map.1 hc
      exact (Hcs.out _ x.2).2.1.2
    have hlv : (vals pre).length = pre.length := List.length_map _
    have hsn := vals_snoc pre y
    have hos := allS_snoc bs (vals pre) y.1
    have hob := objs_snoc (vals pre) y.1
    have hen := endO_snoc (vals pre) y.1
    rw [← hsn] at hos hob hen
    have hcm := Hcs.out _ y.2
    have HSf := Lib.hid (fun X (k : Kept [] W X) => startFaults_ok bs p q y.1 (HV0.out.keep0 (hk.trans k)) hcm.1.1 (by have := hcm.1.2; have := hcm.2.1.1; have := HGd.out.bound.2; omega) (by have := hcm.2.1.1; omega) hcm.2.1.2)
    have HBe := Lib.hid (fun X => wbehind_ok y.1 (by have := hcm.1.1; omega) (by have := hcm.1.2; have := hcm.2.1.1; have := HGd.out.bound.2; omega) (by have := hcm.2.1.1; omega) (by have := hcm.2.1.2; omega) X)
    unfold Cel.val at HSf HBe
    clear hsn hcm
    obtain ⟨⟨ca, ⟨ct, cy, cl, cz⟩⟩, hy⟩ := y
    simp only at hos hob hen hX HSf HBe
    have hl7 : (cF bs ⟨ca, ⟨ct, cy, cl, cz⟩⟩).length ≤ 32768 := cF_len bs _ (Hcs.out _ hy).2.1.2
    have hmid : Mid w w5.heap.size W W Bx [.int .i64 ca, .int .u8 ct, .int .i64 cy, .int .i64 cl, .int .i64 cz] p v u (allS bs (vals pre)) (objs (vals pre)) (endO (vals pre)) := ⟨hX, h5, h8, hO8, hV8, h9, hO9, hV9, hnx, h10, hk, KeepsFrom.refl _ _, Kpn.refl _ _⟩
    obtain ⟨x0, x1, x2, x3, x4⟩ := cells5 hX
    have c5 := h5.cell 0
    have c8 := h8.cell 0
    have f8 := h8.free 0
    simp at c5 c8
    have HM := Lib.hid hmid
    have Hos := Lib.hid hos
    have Hob := Lib.hid hob
    have Hen := Lib.hid hen
    clear h5 h8 h9 h10 hO8 hV8 hO9 hV9 hk hX hos hob hen hmid h9x hnx
    generalize hfs : allS bs (vals pre) = fs at *
    generalize hc7 : cF bs ⟨ca, ⟨ct, cy, cl, cz⟩⟩ = f7 at *
    have hb1 : fs.length + f7.length ≤ 1073741824 := by omega
    clear hfs hc7
    dsimp only
    gi_wp2_with (fail)
    gi_cut [] from 26 (fun wx => Hid (∃ v1, Mid w w5.heap.size W wx Bx [.int .i64 ca, .int .u8 ct, .int .i64 cy, .int .i64 cl, .int .i64 cz] p v1 u (fs ++ f7) (objs (vals pre)) (endO (vals pre))))
    case first =>
      refine wpIn_region_any (by kernel_rfl) ?_
      change wpAnyIn _ _ _ _ _ _ _ _ _ (World.drew _)
      repeat (any_goals (first
        | (refine wpAnyIn_ready (rs := [0, 1, 2]) (by decide +kernel) (by simp) ?_; refine (AllReadyIn.cons rfl (fun K hK => ?_) (AllReadyIn.cons rfl (fun K hK => ?_) (AllReadyIn.cons rfl (fun K hK => ?_) AllReadyIn.nil))) <;> (first | (go_simp; refine hK _ _ ?_; clear hK K) | (go_simp; refine ⟨trivial, (CallsIn.inRound _ (callsIn_wide.2 (HSf.out _ (Kept.refl [] W).drew))).mono ?_⟩; rintro e y1 ⟨v7, rfl, hO7, hV7, k7⟩; have e8 := (HM.out.h8.keep0 ((Kept.refl [] W).drew.trans k7)).cell 0; simp at e8; refine hK _ _ ?_; clear hK K)))
        | (refine wpAnyIn_ready (rs := [0, 1]) (by decide +kernel) (by simp) ?_; refine (AllReadyIn.cons rfl (fun K hK => ?_) (AllReadyIn.cons rfl (fun K hK => ?_) AllReadyIn.nil)) <;> (first | (go_simp; refine hK _ _ ?_; clear hK K) | (go_simp; refine ⟨trivial, (CallsIn.inRound _ (callsIn_wide.2 (HSf.out _ (Kept.refl [] W).drew))).mono ?_⟩; rintro e y1 ⟨v7, rfl, hO7, hV7, k7⟩; have e8 := (HM.out.h8.keep0 ((Kept.refl [] W).drew.trans k7)).cell 0; simp at e8; refine hK _ _ ?_; clear hK K)))
        | (refine wpAnyIn_ready (rs := [0, 2]) (by decide +kernel) (by simp) ?_; refine (AllReadyIn.cons rfl (fun K hK => ?_) (AllReadyIn.cons rfl (fun K hK => ?_) AllReadyIn.nil)) <;> (first | (go_simp; refine hK _ _ ?_; clear hK K) | (go_simp; refine ⟨trivial, (CallsIn.inRound _ (callsIn_wide.2 (HSf.out _ (Kept.refl [] W).drew))).mono ?_⟩; rintro e y1 ⟨v7, rfl, hO7, hV7, k7⟩; have e8 := (HM.out.h8.keep0 ((Kept.refl [] W).drew.trans k7)).cell 0; simp at e8; refine hK _ _ ?_; clear hK K)))
        | (refine wpAnyIn_ready (rs := [1, 2]) (by decide +kernel) (by simp) ?_; refine (AllReadyIn.cons rfl (fun K hK => ?_) (AllReadyIn.cons rfl (fun K hK => ?_) AllReadyIn.nil)) <;> (first | (go_simp; refine hK _ _ ?_; clear hK K) | (go_simp; refine ⟨trivial, (CallsIn.inRound _ (callsIn_wide.2 (HSf.out _ (Kept.refl [] W).drew))).mono ?_⟩; rintro e y1 ⟨v7, rfl, hO7, hV7, k7⟩; have e8 := (HM.out.h8.keep0 ((Kept.refl [] W).drew.trans k7)).cell 0; simp at e8; refine hK _ _ ?_; clear hK K)))
        | (refine wpAnyIn_ready (rs := [0, 3]) (by decide +kernel) (by simp) ?_; refine (AllReadyIn.cons rfl (fun K hK => ?_) (AllReadyIn.cons rfl (fun K hK => ?_) AllReadyIn.nil)) <;> (first | (go_simp; refine hK _ _ ?_; clear hK K) | (go_simp; refine ⟨trivial, (CallsIn.inRound _ (callsIn_wide.2 (HSf.out _ (Kept.refl [] W).drew))).mono ?_⟩; rintro e y1 ⟨v7, rfl, hO7, hV7, k7⟩; have e8 := (HM.out.h8.keep0 ((Kept.refl [] W).drew.trans k7)).cell 0; simp at e8; refine hK _ _ ?_; clear hK K)))
        | (refine wpAnyIn_ready (rs := [0]) (by decide +kernel) (by simp) ?_; refine (AllReadyIn.cons rfl (fun K hK => ?_) AllReadyIn.nil) <;> (first | (go_simp; refine hK _ _ ?_; clear hK K) | (go_simp; refine ⟨trivial, (CallsIn.inRound _ (callsIn_wide.2 (HSf.out _ (Kept.refl [] W).drew))).mono ?_⟩; rintro e y1 ⟨v7, rfl, hO7, hV7, k7⟩; have e8 := (HM.out.h8.keep0 ((Kept.refl [] W).drew.trans k7)).cell 0; simp at e8; refine hK _ _ ?_; clear hK K)))
        | (refine wpAnyIn_ready (rs := [1]) (by decide +kernel) (by simp) ?_; refine (AllReadyIn.cons rfl (fun K hK => ?_) AllReadyIn.nil) <;> (first | (go_simp; refine hK _ _ ?_; clear hK K) | (go_simp; refine ⟨trivial, (CallsIn.inRound _ (callsIn_wide.2 (HSf.out _ (Kept.refl [] W).drew))).mono ?_⟩; rintro e y1 ⟨v7, rfl, hO7, hV7, k7⟩; have e8 := (HM.out.h8.keep0 ((Kept.refl [] W).drew.trans k7)).cell 0; simp at e8; refine hK _ _ ?_; clear hK K)))
        | (refine wpAnyIn_ready (rs := [2]) (by decide +kernel) (by simp) ?_; refine (AllReadyIn.cons rfl (fun K hK => ?_) AllReadyIn.nil) <;> (first | (go_simp; refine hK _ _ ?_; clear hK K) | (go_simp; refine ⟨trivial, (CallsIn.inRound _ (callsIn_wide.2 (HSf.out _ (Kept.refl [] W).drew))).mono ?_⟩; rintro e y1 ⟨v7, rfl, hO7, hV7, k7⟩; have e8 := (HM.out.h8.keep0 ((Kept.refl [] W).drew.trans k7)).cell 0; simp at e8; refine hK _ _ ?_; clear hK K)))
        | (refine wpAnyIn_ready (rs := [3]) (by decide +kernel) (by simp) ?_; refine (AllReadyIn.cons rfl (fun K hK => ?_) AllReadyIn.nil) <;> (first | (go_simp; refine hK _ _ ?_; clear hK K) | (go_simp; refine ⟨trivial, (CallsIn.inRound _ (callsIn_wide.2 (HSf.out _ (Kept.refl [] W).drew))).mono ?_⟩; rintro e y1 ⟨v7, rfl, hO7, hV7, k7⟩; have e8 := (HM.out.h8.keep0 ((Kept.refl [] W).drew.trans k7)).cell 0; simp at e8; refine hK _ _ ?_; clear hK K)))))
      all_goals
        have hbase : Kept [] W y1 := (Kept.refl [] W).drew.trans k7
        have HM1 := Lib.hid (HM.out.keep0 hbase)
        obtain ⟨A7, c7, rfl, hn7, hs7⟩ := back_own hO7
        have Hs7 := Lib.hid hs7
        clear hs7 hO7 hV7 k7 hbase x0 x1 x2 x3 x4 c5 c8 f8
        try clear e8
        rw [Rk.fence_round]
        refine Rk.any_tail (r := some lo) 4 (by decide) (by decide +kernel) ?_
        rw [← Rk.fence_round]
        simp only [List.drop_succ_cons, List.drop_zero]
        refine list_append_in Flt rfl (.tmp 26) (.tmp 29) rfl v fs rfl HM1.out.o8 A7 f7.length c7 f7 rfl rfl hn7 Hs7.out hb1 ?_
        intro v' w3 hO hG hV
        obtain ⟨A', c', rfl, _, _⟩ := back_own hO
        have hE := HM1.out.fault hG hO hV
        have hb8 : Has w3 (w.heap.size + 1) 58 [v] := HM1.out.h8.kept (Sp.kept_grown hG) fun hm => by
          obtain ⟨ds, hd⟩ := own_cells (K := Flt) HM1.out.o8 _ hm
          exact Has.block_type HM1.out.h8 hd (by decide) rfl
        have c8 := hb8.cell 0
        have f8 := hb8.free 0
        simp at c8
        have HE := Lib.hid hE
        clear hE hb8 hO hG hV
        generalize (fs ++ f7).length = len at *
        gi_wp2_with (fail)
        gi_meet
        case rel => exact Lib.hid ⟨_, HE.out⟩
    case rest =>
      obtain ⟨v1, hM⟩ := hcut.out
      have HMM := Lib.hid hM
      clear hcut x0 x1 x2 x3 x4 c5 c8 f8
      obtain ⟨x0, x1, x2, x3, x4⟩ := cells5 hM.hx
      clear hM HM HSf
      by_cases ht : ct = 1
      · rw [if_pos ht] at Hob
        subst ht
        have hka : Kept [] wc (wc.alloc (.cells #[.int .i64 ca, .int .u8 1, .int .i64 cy, .int .i64 cl, .int .i64 cz] 78)) := (Kept.refl [] wc).alloc _
        have hB : Has (wc.alloc (.cells #[.int .i64 ca, .int .u8 1, .int .i64 cy, .int .i64 cl, .int .i64 cz] 78)) wc.heap.size 78 (Cel.l ⟨ca, ⟨1, cy, cl, cz⟩⟩) := Has.new wc 78 [.int .i64 ca, .int .u8 1, .int .i64 cy, .int .i64 cl, .int .i64 cz]
        have H0 := Lib.hid hB
        have HM2 := Lib.hid (HMM.out.keep0 hka)
        have c9 := HMM.out.h9.cell 0
        simp at c9
        have hb2 : (objs (vals pre)).length ≤ 32768 := by
          have h1 : (objs (vals pre)).length ≤ (vals pre).length := List.length_filter_le _ _
          omega
        generalize objs (vals pre) = os at *
        clear hka hB
        gi_upto_region 10 with (fail)
        gi_cut [] from 35 (fun wx => Hid (∃ u2, Mid w w5.heap.size W wx Bx [.int .i64 ca, .int .u8 1, .int .i64 cy, .int .i64 cl, .int .i64 cz] p v1 u2 (fs ++ f7) (os ++ [(⟨ca, ⟨1, cy, cl, cz⟩⟩ : Cel)]) (endO (vals pre))))
        case first =>
          gi_wp2_with (gi_at_builtin; refine append_cels_in rfl (.tmp 35) (.tmp 37) rfl u os rfl HM2.out.o9 wc.heap.size 1 ⟨ca, ⟨1, cy, cl, cz⟩⟩ rfl H0.out (by omega) ?_)
          intro v' w3 hO hG hV
          obtain ⟨A', c', rfl, _⟩ := Sp.back_own (Kept.refl [] _) hO
          have hE := HM2.out.object hG hO (by rw [World.size_alloc]; exact hV)
          have hb9 : Has w3 (w.heap.size + 1 + 1) 36 [u] := HM2.out.h9.kept (Sp.kept_grown hG) fun hm => by
            obtain ⟨ds, hd⟩ := Sp.own_cells HM2.out.o9 _ hm
            exact Has.block_type HM2.out.h9 hd (by decide) rfl
          clear c9
          have c9 := hb9.cell 0
          have f9 := hb9.free 0
          simp at c9
          have HE := Lib.hid hE
          clear hE hb9 hO hG hV
          generalize (os ++ [(⟨ca, ⟨1, cy, cl, cz⟩⟩ : Cel)]).length = len at *
          gi_wp2_with (fail)
          gi_meet
          case rel => exact Lib.hid ⟨_, HE.out⟩
        case rest =>
          obtain ⟨u2, hM⟩ := hcut.out
          clear hcut x0 x1 x2 x3 x4 c9 HMM HM2 H0
          obtain ⟨x0, x1, x2, x3, x4⟩ := cells5 hM.hx
          have HMM := Lib.hid hM
          clear hM
          gi_wp2_with (fail)
          refine ⟨trivial, (CallsIn.inRound _ (callsIn_wide.2 (HBe.out _))).mono ?_⟩
          rintro e y7 ⟨rfl, k7⟩
          have HM7 := Lib.hid (HMM.out.keep0 k7)
          clear k7 HMM HBe x0 x1 x2 x3 x4
          have c10 := HM7.out.h10.cell 0
          have f10 := HM7.out.h10.free 0
          simp at c10
          gi_wp2_with (fail)
          have hE := HM7.out.last (ca + cz)
          exact ⟨hE.kf, hE.kp, ⟨hE.h5, ⟨_, hE.h8, by rw [Hos.out]; exact hE.o8, hE.f8⟩, ⟨_, hE.h9, by rw [Hob.out]; exact hE.o9, hE.f9⟩, by rw [Hen.out]; exact hE.h10⟩, hE.k⟩
      · rw [if_neg ht] at Hob
        have hb : (ct == 1) = false := by simpa using ht
        clear ht
        gi_wp2_with (fail)
        refine ⟨trivial, (CallsIn.inRound _ (callsIn_wide.2 (HBe.out _))).mono ?_⟩
        rintro e y7 ⟨rfl, k7⟩
        have HM7 := Lib.hid (HMM.out.keep0 k7)
        clear k7 HMM HBe x0 x1 x2 x3 x4
        have c10 := HM7.out.h10.cell 0
        have f10 := HM7.out.h10.free 0
        simp at c10
        gi_wp2_with (fail)
        have hE := HM7.out.last (ca + cz)
        exact ⟨hE.kf, hE.kp, ⟨hE.h5, ⟨_, hE.h8, by rw [Hos.out]; exact hE.o8, hE.f8⟩, ⟨_, hE.h9, by rw [Hob.out]; exact hE.o9, hE.f9⟩, by rw [Hen.out]; exact hE.h10⟩, hE.k⟩
  case done =>
    rintro D xs W hD hx ⟨⟨h5, ⟨v, h8, hO8, hV8⟩, ⟨u, h9, hO9, hV9⟩, h10⟩, hk⟩ hK
    have hx : vals xs = cs := hx
    rw [hx] at hO8 hO9 h10
    have HKd := Lib.hid hK
    have hls : (allS bs cs).length ≤ 32768 := allS_few bs HC.out HGd.out.bound.2
    have HGr := Lib.hid (fun y (k : Kept [] W y) => (HGd.out.keep0 (hk.trans k)).gran)
    have c10 := h10.cell 0
    simp at c10
    have H8 := Lib.hid h8
    have HO8 := Lib.hid hO8
    have HV8 := Lib.hid hV8
    have H9 := Lib.hid h9
    have HO9 := Lib.hid hO9
    have Hk := Lib.hid hk
    have hmx : Tryz.prog.follows .mixedOrders = true := by kernel_rfl
    clear hK hx h5 h8 hO8 hV8 h9 hO9 hV9 h10 hk
    obtain ⟨en, hen⟩ : ∃ en, en = endO cs := ⟨_, rfl⟩
    obtain ⟨G, hG⟩ : ∃ G, G = gran ws := ⟨_, rfl⟩
    rw [← hen] at c10
    rw [← hG] at HGr
    have HEn := Lib.hid hen
    have HG := Lib.hid hG
    clear hen hG
    have hw0 : Kept [] W W := Kept.refl _ _
    gi_wp2_with (fail)
    gi_cut [44] from 41 (fun b wx => b = .bool (decide (en < G)) ∧ Hid (Kept [] W wx))
    case first =>
      refine wpIn_region_any (by kernel_rfl) ?_
      change wpAnyIn _ _ _ _ _ _ _ _ _ (World.drew _)
      repeat (any_goals (first
        | (refine wpAnyIn_ready (rs := [0, 1]) (by decide +kernel) (by simp) ?_; refine (AllReadyIn.cons rfl (fun K hK => ?_) (AllReadyIn.cons rfl (fun K hK => ?_) AllReadyIn.nil)) <;> (first | (go_simp; refine hK _ _ ?_; clear hK K) | (go_simp; refine ⟨trivial, (callsIn_wide.2 (HGr.out _ hw0.drew)).mono ?_⟩; rintro e y ⟨rfl, rfl⟩; refine hK _ _ ?_; clear hK K)))
        | (refine wpAnyIn_ready (rs := [0, 2]) (by decide +kernel) (by simp) ?_; refine (AllReadyIn.cons rfl (fun K hK => ?_) (AllReadyIn.cons rfl (fun K hK => ?_) AllReadyIn.nil)) <;> (first | (go_simp; refine hK _ _ ?_; clear hK K) | (go_simp; refine ⟨trivial, (callsIn_wide.2 (HGr.out _ hw0.drew)).mono ?_⟩; rintro e y ⟨rfl, rfl⟩; refine hK _ _ ?_; clear hK K)))
        | (refine wpAnyIn_ready (rs := [0]) (by decide +kernel) (by simp) ?_; refine (AllReadyIn.cons rfl (fun K hK => ?_) AllReadyIn.nil) <;> (first | (go_simp; refine hK _ _ ?_; clear hK K) | (go_simp; refine ⟨trivial, (callsIn_wide.2 (HGr.out _ hw0.drew)).mono ?_⟩; rintro e y ⟨rfl, rfl⟩; refine hK _ _ ?_; clear hK K)))
        | (refine wpAnyIn_ready (rs := [1]) (by decide +kernel) (by simp) ?_; refine (AllReadyIn.cons rfl (fun K hK => ?_) AllReadyIn.nil) <;> (first | (go_simp; refine hK _ _ ?_; clear hK K) | (go_simp; refine ⟨trivial, (callsIn_wide.2 (HGr.out _ hw0.drew)).mono ?_⟩; rintro e y ⟨rfl, rfl⟩; refine hK _ _ ?_; clear hK K)))
        | (refine wpAnyIn_ready (rs := [2]) (by decide +kernel) (by simp) ?_; refine (AllReadyIn.cons rfl (fun K hK => ?_) AllReadyIn.nil) <;> (first | (go_simp; refine hK _ _ ?_; clear hK K) | (go_simp; refine ⟨trivial, (callsIn_wide.2 (HGr.out _ hw0.drew)).mono ?_⟩; rintro e y ⟨rfl, rfl⟩; refine hK _ _ ?_; clear hK K)))
        | (refine wpAnyIn_ready (rs := [3]) (by decide +kernel) (by simp) ?_; refine (AllReadyIn.cons rfl (fun K hK => ?_) AllReadyIn.nil) <;> (first | (go_simp; refine hK _ _ ?_; clear hK K) | (go_simp; refine ⟨trivial, (callsIn_wide.2 (HGr.out _ hw0.drew)).mono ?_⟩; rintro e y ⟨rfl, rfl⟩; refine hK _ _ ?_; clear hK K)))))
      all_goals refine wpAnyIn_done (by kernel_rfl) ?_ _
      all_goals gi_wp2_with (fail)
      all_goals gi_meet
      all_goals exact ⟨by simp, Lib.hid (by first | exact hw0.drew | exact hw0)⟩
    case rest =>
      obtain ⟨rfl, hkc⟩ := hcut
      have hk := Hk.out.trans hkc.out
      have h8 := H8.out.keep0 hkc.out
      have h9 := H9.out.keep0 hkc.out
      have hO8 := HO8.out.keep0 hkc.out
      have hO9 := HO9.out.keep0 hkc.out
      have hD9 : wc.heap[D]? = some (.deferred (some [])) := (hkc.out.old D (Array.getElem?_eq_some_iff.1 HKd.out).1 (by simp)).trans HKd.out
      have c10 : wc.cell? ⟨w.heap.size + 1 + 1 + 1, 0, none⟩ = some (.int .i64 en) := (World.cell?_of_block (hkc.out.old _ (World.block_lt_of_cell? W _ c10) (by simp))).trans c10
      have c8 := h8.cell 0
      simp at c8
      have HK := Lib.hid hk
      have H8c := Lib.hid h8
      have H9c := Lib.hid h9
      have HO8c := Lib.hid hO8
      have HO9c := Lib.hid hO9
      have HDc := Lib.hid hD9
      clear hkc hk h8 h9 hO8 hO9 hD9 H8 HO8 H9 HO9 HKd HGr hw0
      gi_upto_if 44 with (fail)
      gi_cut [] from 44 (fun wx => Hid (∃ v2, Has wx (w.heap.size + 1) 58 [v2] ∧ Own Flt wx v2 (allS bs cs ++ frmF ws cs) ∧ Sp.FreshV w v2 ∧ Kept [] w wx ∧ Has wx (w.heap.size + 1 + 1) 36 [u] ∧ Sp.Own wx u (objs cs) ∧ wx.heap[D]? = some (.deferred (some []))))
      case first =>
        by_cases hlt : en < G
        · have hfr : allS bs cs ++ frmF ws cs = allS bs cs ++ [⟨en, 0, 7⟩] := by unfold frmF; rw [← HEn.out, ← HG.out, if_pos hlt]
          have HFr := Lib.hid hfr
          have hd := decide_eq_true hlt
          have hka : Kept [] wc (wc.alloc (.cells #[.int .i64 en, .int .i64 0, .int .i64 7] 69)) := (Kept.refl [] wc).alloc _
          have hB : Has (wc.alloc (.cells #[.int .i64 en, .int .i64 0, .int .i64 7] 69)) wc.heap.size 69 (Tri.l ⟨en, 0, 7⟩) := Has.new wc 69 [.int .i64 en, .int .i64 0, .int .i64 7]
          have H0 : Hid (Seen Flt (wc.alloc (.cells #[.int .i64 en, .int .i64 0, .int .i64 7] 69)) (some ⟨wc.heap.size, 0, none⟩) [(⟨en, 0, 7⟩ : Tri)]) := Lib.hid (seen_one (K := Flt) hB)
          have HOa := Lib.hid (HO8c.out.keep0 hka)
          have Hka := Lib.hid hka
          have hb1 : (allS bs cs).length + 1 ≤ 1073741824 := by omega
          clear hka hB hfr hlt
          generalize allS bs cs = fs at *
          rw [hd]
          clear hd
          gi_wp2_with (gi_at_builtin; refine append_in Flt rfl (.tmp 45) (.tmp 48) rfl v fs rfl HOa.out _ 1 1 [(⟨en, 0, 7⟩ : Tri)] rfl rfl H0.out hb1 ?_)
          intro v' w3 hO hG hV
          obtain ⟨A', c', len, rfl⟩ : ∃ A' c' n', v' = .slice A' n' c' := by
            obtain ⟨A, c, e, _⟩ := back_own hO
            exact ⟨A, c, _, e⟩
          have hkg := Sp.kept_grown hG
          have hnv : ∀ {i : Nat} {t : TypeId} {cs : List Value}, Has (wc.alloc (.cells #[.int .i64 en, .int .i64 0, .int .i64 7] 69)) i t cs → t ≠ 69 → i ∉ v.ownBlock.toList := fun h1 ht hm => by
            obtain ⟨ds, hd⟩ := own_cells (K := Flt) HOa.out _ hm
            exact Has.block_type h1 hd ht rfl
          have hb8 := (H8c.out.keep0 Hka.out).kept hkg (hnv (H8c.out.keep0 Hka.out) (by decide))
          have hb9 := (H9c.out.keep0 Hka.out).kept hkg (hnv (H9c.out.keep0 Hka.out) (by decide))
          have ho9 := (HO9c.out.keep0 Hka.out).kept hkg (fun g hg e => by
            obtain ⟨ds, hd⟩ := own_cells (K := Flt) HOa.out _ hg
            obtain ⟨cs, hcs⟩ := Sp.own_cells (HO9c.out.keep0 Hka.out) g (by rw [e]; simp)
            exact Has.block_type hd hcs (by decide) rfl)
          have hDa : (wc.alloc (.cells #[.int .i64 en, .int .i64 0, .int .i64 7] 69)).heap[D]? = some (.deferred (some [])) := (Hka.out.old D (Array.getElem?_eq_some_iff.1 HDc.out).1 (by simp)).trans HDc.out
          have hD3 : w3.heap[D]? = some (.deferred (some [])) := (hkg.old D (Array.getElem?_eq_some_iff.1 hDa).1 (fun hm => by
            obtain ⟨ds, hd⟩ := own_cells (K := Flt) HOa.out _ hm
            have := hd.symm.trans hDa
            injection this with this
            cases this)).trans hDa
          have hk3 := own_grown (HK.out.trans Hka.out) HV8.out hG
          have hf3 := own_fresh (HK.out.trans Hka.out) HV8.out (by rw [World.size_alloc]; exact hV)
          have hKS : ∀ z, Kept [w.heap.size + 1] w3 (w3.setCell ⟨w.heap.size + 1, 0, none⟩ z) := fun z => (Kept.refl _ w3).setCell _ _ (.inl (by simp))
          have hfin : Hid (∃ v2, Has (w3.setCell ⟨w.heap.size + 1, 0, none⟩ (.slice A' len c')) (w.heap.size + 1) 58 [v2] ∧ Own Flt (w3.setCell ⟨w.heap.size + 1, 0, none⟩ (.slice A' len c')) v2 (fs ++ [⟨en, 0, 7⟩]) ∧ Sp.FreshV w v2 ∧ Kept [] w (w3.setCell ⟨w.heap.size + 1, 0, none⟩ (.slice A' len c')) ∧ Has (w3.setCell ⟨w.heap.size + 1, 0, none⟩ (.slice A' len c')) (w.heap.size + 1 + 1) 36 [u] ∧ Sp.Own (w3.setCell ⟨w.heap.size + 1, 0, none⟩ (.slice A' len c')) u (objs cs) ∧ (w3.setCell ⟨w.heap.size + 1, 0, none⟩ (.slice A' len c')).heap[D]? = some (.deferred (some []))) := Lib.hid (by
            refine ⟨_, hb8.put 0 _, ?_, hf3, hk3.forget (hKS _) (by simp), hb9.kept (hKS _) (by simp), ?_, ?_⟩
            · exact hO.kept (hKS _) fun g hg e => by
                obtain rfl := List.mem_singleton.1 hg
                obtain ⟨cs, hcs⟩ := own_cells (K := Flt) hO (w.heap.size + 1) (by rw [e]; simp)
                exact Has.block_type hb8 hcs (by decide) rfl
            · exact ho9.kept (hKS _) fun g hg e => by
                obtain rfl := List.mem_singleton.1 hg
                obtain ⟨cs, hcs⟩ := Sp.own_cells ho9 (w.heap.size + 1) (by rw [e]; simp)
                exact Has.block_type hb8 hcs (by decide) rfl
            · refine ((hKS _).old D (Array.getElem?_eq_some_iff.1 hD3).1 (fun hm => ?_)).trans hD3
              rw [List.mem_singleton.1 hm] at hD3
              have := hb8.symm.trans hD3
              injection this with this
              cases this)
          clear c8
          have c8 := hb8.cell 0
          have f8 := hb8.free 0
          simp at c8
          clear hkg hnv hb8 hb9 ho9 hDa hD3 hk3 hf3 hKS hO hG hV H0 HOa Hka
          gi_wp2_with (fail)
          gi_meet
          case rel => rw [HFr.out]; exact hfin
        · have hfr : allS bs cs ++ frmF ws cs = allS bs cs := by unfold frmF; rw [← HEn.out, ← HG.out, if_neg hlt, List.append_nil]
          have HFr := Lib.hid hfr
          have hd := decide_eq_false hlt
          rw [hd]
          clear hfr hlt hd
          gi_wp2_with (fail)
          gi_meet
          case rel => exact Lib.hid ⟨v, H8c.out, by rw [HFr.out]; exact HO8c.out, HV8.out, HK.out, H9c.out, HO9c.out, HDc.out⟩
      case rest =>
        obtain ⟨v2, h8, hO8, hV8, hk, h9, hO9, hD9⟩ := hcut.out
        obtain ⟨Au, cu, rfl, _⟩ := Sp.back_own (Kept.refl [] _) hO9
        have c8 := h8.cell 0
        have c9 := h9.cell 0
        simp at c8 c9
        have H8d := Lib.hid h8
        have HO8d := Lib.hid hO8
        have HV8d := Lib.hid hV8
        have Hkd := Lib.hid hk
        have HDd := Lib.hid hD9
        have HRf := Lib.hid (fun y (k : Kept [] wc y) => refFaults_ok (c := cu) (HGd.out.keep0 (hk.trans k)) (hO9.keep0 k) (objs_few hcl) (scans_obj HC.out) (objs_in HC.out HGd.out.bound.2) (rfs_few HC.out HGd.out.bound.2))
        have hrf : (refF (objs cs) (rfs ws l (objs cs))).length ≤ 65536 := Nat.le_trans (refF_len _ _) (rfs_few HC.out HGd.out.bound.2)
        have hb2 : (allS bs cs ++ frmF ws cs).length ≤ 32769 := by
          rw [List.length_append]
          have : (frmF ws cs).length ≤ 1 := by unfold frmF; split <;> simp
          omega
        have hw0 : Kept [] wc wc := Kept.refl _ _
        obtain ⟨res, hres⟩ : ∃ res, res = chkF ws l bs cs := ⟨_, rfl⟩
        have HRes := Lib.hid hres
        have HCh : Hid (res = allS bs cs ++ frmF ws cs ++ refF (objs cs) (rfs ws l (objs cs))) := Lib.hid hres
        clear h8 hO8 hV8 hk h9 hO9 hD9 hcut hls hres
        generalize refF (objs cs) (rfs ws l (objs cs)) = rf at *
        generalize allS bs cs ++ frmF ws cs = fs at *
        have hb1 : fs.length + rf.length ≤ 1073741824 := by omega
        gi_wp2_with (fail)
        gi_cut [6, 7] from 50 (fun a b wx => b = .int .i64 0 ∧ Hid (Own Flt wx a res ∧ Sp.FreshV w a ∧ Kept [] w wx ∧ wx.heap[D]? = some (.deferred (some []))))
        case rest =>
          obtain ⟨rfl, hfin⟩ := hcut
          obtain ⟨hO, hV, hk, hD9⟩ := hfin.out
          have HO := Lib.hid hO
          have HV := Lib.hid hV
          have Hk := Lib.hid hk
          have HD9 := Lib.hid hD9
          clear hfin hO hV hk hD9 c8 c9 HRf
          gi_wp2_with (fail)
          refine ⟨by simp, .inl ⟨_, _, rfl, run_takeDeferred HD9.out, ?_⟩⟩
          exact ⟨_, results_tmp2 rfl _ _ _, ⟨_, rfl, by rw [← HRes.out]; exact own_put HO.out D _ _ HD9.out rfl, HV.out, kept_put Hk.out D _ (Nat.le_trans Hk5.out.more hD)⟩⟩
        refine wpIn_region_any (by kernel_rfl) ?_
        change wpAnyIn _ _ _ _ _ _ _ _ _ (World.drew _)
        repeat (any_goals (first
          | (refine wpAnyIn_ready (rs := [0, 1, 2, 3]) (by decide +kernel) (by simp) ?_; refine (AllReadyIn.cons rfl (fun K hK => ?_) (AllReadyIn.cons rfl (fun K hK => ?_) (AllReadyIn.cons rfl (fun K hK => ?_) (AllReadyIn.cons rfl (fun K hK => ?_) AllReadyIn.nil)))) <;> (first | (go_simp; refine hK _ _ ?_; clear hK K) | (go_simp; refine ⟨trivial, (callsIn_wide.2 (HRf.out _ hw0.drew)).mono ?_⟩; rintro e y1 ⟨v7, rfl, hO7, hV7, k7⟩; have e8 := (H8d.out.keep0 (hw0.drew.trans k7)).cell 0; simp at e8; refine hK _ _ ?_; clear hK K)))
          | (refine wpAnyIn_ready (rs := [0, 1, 2]) (by decide +kernel) (by simp) ?_; refine (AllReadyIn.cons rfl (fun K hK => ?_) (AllReadyIn.cons rfl (fun K hK => ?_) (AllReadyIn.cons rfl (fun K hK => ?_) AllReadyIn.nil))) <;> (first | (go_simp; refine hK _ _ ?_; clear hK K) | (go_simp; refine ⟨trivial, (callsIn_wide.2 (HRf.out _ hw0.drew)).mono ?_⟩; rintro e y1 ⟨v7, rfl, hO7, hV7, k7⟩; have e8 := (H8d.out.keep0 (hw0.drew.trans k7)).cell 0; simp at e8; refine hK _ _ ?_; clear hK K)))
          | (refine wpAnyIn_ready (rs := [0, 1, 3]) (by decide +kernel) (by simp) ?_; refine (AllReadyIn.cons rfl (fun K hK => ?_) (AllReadyIn.cons rfl (fun K hK => ?_) (AllReadyIn.cons rfl (fun K hK => ?_) AllReadyIn.nil))) <;> (first | (go_simp; refine hK _ _ ?_; clear hK K) | (go_simp; refine ⟨trivial, (callsIn_wide.2 (HRf.out _ hw0.drew)).mono ?_⟩; rintro e y1 ⟨v7, rfl, hO7, hV7, k7⟩; have e8 := (H8d.out.keep0 (hw0.drew.trans k7)).cell 0; simp at e8; refine hK _ _ ?_; clear hK K)))
          | (refine wpAnyIn_ready (rs := [0, 2, 3]) (by decide +kernel) (by simp) ?_; refine (AllReadyIn.cons rfl (fun K hK => ?_) (AllReadyIn.cons rfl (fun K hK => ?_) (AllReadyIn.cons rfl (fun K hK => ?_) AllReadyIn.nil))) <;> (first | (go_simp; refine hK _ _ ?_; clear hK K) | (go_simp; refine ⟨trivial, (callsIn_wide.2 (HRf.out _ hw0.drew)).mono ?_⟩; rintro e y1 ⟨v7, rfl, hO7, hV7, k7⟩; have e8 := (H8d.out.keep0 (hw0.drew.trans k7)).cell 0; simp at e8; refine hK _ _ ?_; clear hK K)))
          | (refine wpAnyIn_ready (rs := [1, 2, 3]) (by decide +kernel) (by simp) ?_; refine (AllReadyIn.cons rfl (fun K hK => ?_) (AllReadyIn.cons rfl (fun K hK => ?_) (AllReadyIn.cons rfl (fun K hK => ?_) AllReadyIn.nil))) <;> (first | (go_simp; refine hK _ _ ?_; clear hK K) | (go_simp; refine ⟨trivial, (callsIn_wide.2 (HRf.out _ hw0.drew)).mono ?_⟩; rintro e y1 ⟨v7, rfl, hO7, hV7, k7⟩; have e8 := (H8d.out.keep0 (hw0.drew.trans k7)).cell 0; simp at e8; refine hK _ _ ?_; clear hK K)))
          | (refine wpAnyIn_ready (rs := [0, 1]) (by decide +kernel) (by simp) ?_; refine (AllReadyIn.cons rfl (fun K hK => ?_) (AllReadyIn.cons rfl (fun K hK => ?_) AllReadyIn.nil)) <;> (first | (go_simp; refine hK _ _ ?_; clear hK K) | (go_simp; refine ⟨trivial, (callsIn_wide.2 (HRf.out _ hw0.drew)).mono ?_⟩; rintro e y1 ⟨v7, rfl, hO7, hV7, k7⟩; have e8 := (H8d.out.keep0 (hw0.drew.trans k7)).cell 0; simp at e8; refine hK _ _ ?_; clear hK K)))
          | (refine wpAnyIn_ready (rs := [0, 2]) (by decide +kernel) (by simp) ?_; refine (AllReadyIn.cons rfl (fun K hK => ?_) (AllReadyIn.cons rfl (fun K hK => ?_) AllReadyIn.nil)) <;> (first | (go_simp; refine hK _ _ ?_; clear hK K) | (go_simp; refine ⟨trivial, (callsIn_wide.2 (HRf.out _ hw0.drew)).mono ?_⟩; rintro e y1 ⟨v7, rfl, hO7, hV7, k7⟩; have e8 := (H8d.out.keep0 (hw0.drew.trans k7)).cell 0; simp at e8; refine hK _ _ ?_; clear hK K)))
          | (refine wpAnyIn_ready (rs := [0, 3]) (by decide +kernel) (by simp) ?_; refine (AllReadyIn.cons rfl (fun K hK => ?_) (AllReadyIn.cons rfl (fun K hK => ?_) AllReadyIn.nil)) <;> (first | (go_simp; refine hK _ _ ?_; clear hK K) | (go_simp; refine ⟨trivial, (callsIn_wide.2 (HRf.out _ hw0.drew)).mono ?_⟩; rintro e y1 ⟨v7, rfl, hO7, hV7, k7⟩; have e8 := (H8d.out.keep0 (hw0.drew.trans k7)).cell 0; simp at e8; refine hK _ _ ?_; clear hK K)))
          | (refine wpAnyIn_ready (rs := [1, 2]) (by decide +kernel) (by simp) ?_; refine (AllReadyIn.cons rfl (fun K hK => ?_) (AllReadyIn.cons rfl (fun K hK => ?_) AllReadyIn.nil)) <;> (first | (go_simp; refine hK _ _ ?_; clear hK K) | (go_simp; refine ⟨trivial, (callsIn_wide.2 (HRf.out _ hw0.drew)).mono ?_⟩; rintro e y1 ⟨v7, rfl, hO7, hV7, k7⟩; have e8 := (H8d.out.keep0 (hw0.drew.trans k7)).cell 0; simp at e8; refine hK _ _ ?_; clear hK K)))
          | (refine wpAnyIn_ready (rs := [1, 3]) (by decide +kernel) (by simp) ?_; refine (AllReadyIn.cons rfl (fun K hK => ?_) (AllReadyIn.cons rfl (fun K hK => ?_) AllReadyIn.nil)) <;> (first | (go_simp; refine hK _ _ ?_; clear hK K) | (go_simp; refine ⟨trivial, (callsIn_wide.2 (HRf.out _ hw0.drew)).mono ?_⟩; rintro e y1 ⟨v7, rfl, hO7, hV7, k7⟩; have e8 := (H8d.out.keep0 (hw0.drew.trans k7)).cell 0; simp at e8; refine hK _ _ ?_; clear hK K)))
          | (refine wpAnyIn_ready (rs := [2, 3]) (by decide +kernel) (by simp) ?_; refine (AllReadyIn.cons rfl (fun K hK => ?_) (AllReadyIn.cons rfl (fun K hK => ?_) AllReadyIn.nil)) <;> (first | (go_simp; refine hK _ _ ?_; clear hK K) | (go_simp; refine ⟨trivial, (callsIn_wide.2 (HRf.out _ hw0.drew)).mono ?_⟩; rintro e y1 ⟨v7, rfl, hO7, hV7, k7⟩; have e8 := (H8d.out.keep0 (hw0.drew.trans k7)).cell 0; simp at e8; refine hK _ _ ?_; clear hK K)))
          | (refine wpAnyIn_ready (rs := [0]) (by decide +kernel) (by simp) ?_; refine (AllReadyIn.cons rfl (fun K hK => ?_) AllReadyIn.nil) <;> (first | (go_simp; refine hK _ _ ?_; clear hK K) | (go_simp; refine ⟨trivial, (callsIn_wide.2 (HRf.out _ hw0.drew)).mono ?_⟩; rintro e y1 ⟨v7, rfl, hO7, hV7, k7⟩; have e8 := (H8d.out.keep0 (hw0.drew.trans k7)).cell 0; simp at e8; refine hK _ _ ?_; clear hK K)))
          | (refine wpAnyIn_ready (rs := [1]) (by decide +kernel) (by simp) ?_; refine (AllReadyIn.cons rfl (fun K hK => ?_) AllReadyIn.nil) <;> (first | (go_simp; refine hK _ _ ?_; clear hK K) | (go_simp; refine ⟨trivial, (callsIn_wide.2 (HRf.out _ hw0.drew)).mono ?_⟩; rintro e y1 ⟨v7, rfl, hO7, hV7, k7⟩; have e8 := (H8d.out.keep0 (hw0.drew.trans k7)).cell 0; simp at e8; refine hK _ _ ?_; clear hK K)))
          | (refine wpAnyIn_ready (rs := [2]) (by decide +kernel) (by simp) ?_; refine (AllReadyIn.cons rfl (fun K hK => ?_) AllReadyIn.nil) <;> (first | (go_simp; refine hK _ _ ?_; clear hK K) | (go_simp; refine ⟨trivial, (callsIn_wide.2 (HRf.out _ hw0.drew)).mono ?_⟩; rintro e y1 ⟨v7, rfl, hO7, hV7, k7⟩; have e8 := (H8d.out.keep0 (hw0.drew.trans k7)).cell 0; simp at e8; refine hK _ _ ?_; clear hK K)))
          | (refine wpAnyIn_ready (rs := [3]) (by decide +kernel) (by simp) ?_; refine (AllReadyIn.cons rfl (fun K hK => ?_) AllReadyIn.nil) <;> (first | (go_simp; refine hK _ _ ?_; clear hK K) | (go_simp; refine ⟨trivial, (callsIn_wide.2 (HRf.out _ hw0.drew)).mono ?_⟩; rintro e y1 ⟨v7, rfl, hO7, hV7, k7⟩; have e8 := (H8d.out.keep0 (hw0.drew.trans k7)).cell 0; simp at e8; refine hK _ _ ?_; clear hK K)))
          | (refine wpAnyIn_ready (rs := [0, 4]) (by decide +kernel) (by simp) ?_; refine (AllReadyIn.cons rfl (fun K hK => ?_) (AllReadyIn.cons rfl (fun K hK => ?_) AllReadyIn.nil)) <;> (first | (go_simp; refine hK _ _ ?_; clear hK K) | (go_simp; refine ⟨trivial, (callsIn_wide.2 (HRf.out _ hw0.drew)).mono ?_⟩; rintro e y1 ⟨v7, rfl, hO7, hV7, k7⟩; have e8 := (H8d.out.keep0 (hw0.drew.trans k7)).cell 0; simp at e8; refine hK _ _ ?_; clear hK K)))
          | (refine wpAnyIn_ready (rs := [4]) (by decide +kernel) (by simp) ?_; refine (AllReadyIn.cons rfl (fun K hK => ?_) AllReadyIn.nil) <;> (first | (go_simp; refine hK _ _ ?_; clear hK K) | (go_simp; refine ⟨trivial, (callsIn_wide.2 (HRf.out _ hw0.drew)).mono ?_⟩; rintro e y1 ⟨v7, rfl, hO7, hV7, k7⟩; have e8 := (H8d.out.keep0 (hw0.drew.trans k7)).cell 0; simp at e8; refine hK _ _ ?_; clear hK K)))))
        all_goals
          have hbase : Kept [] wc y1 := hw0.drew.trans k7
          have HOb := Lib.hid (HO8d.out.keep0 hbase)
          have Hkb := Lib.hid (Hkd.out.trans hbase)
          have HDb : Hid (y1.heap[D]? = some (.deferred (some []))) := Lib.hid ((hbase.old D (Array.getElem?_eq_some_iff.1 HDd.out).1 (by simp)).trans HDd.out)
          obtain ⟨A7, c7, rfl, hn7, hs7⟩ := back_own hO7
          have Hs7 := Lib.hid hs7
          clear hs7 hO7 hV7 k7 hbase c8 c9 HRf
          try clear e8
          refine Rk.any_tail (r := none) 5 (by decide) (by decide +kernel) ?_
          simp only [List.drop_succ_cons, List.drop_zero]
          change wpListIn Fence.wide 5 Tryz.prog _ _ _ _ _
          refine list_append_in Flt rfl (.tmp 50) (.tmp 54) rfl v2 fs rfl HOb.out A7 rf.length c7 rf rfl rfl hn7 Hs7.out hb1 ?_
          intro v' w3 hO hG hV
          have hf3 := own_fresh Hkb.out HV8d.out hV
          have hk3 := own_grown Hkb.out HV8d.out hG
          have hD3 : w3.heap[D]? = some (.deferred (some [])) := ((Sp.kept_grown hG).old D (Array.getElem?_eq_some_iff.1 HDb.out).1 (fun hm => by
            obtain ⟨ds, hd⟩ := own_cells (K := Flt) HOb.out _ hm
            have := hd.symm.trans HDb.out
            injection this with this
            cases this)).trans HDb.out
          have HF : Hid (Own Flt w3 v' res ∧ Sp.FreshV w v' ∧ Kept [] w w3 ∧ w3.heap[D]? = some (.deferred (some []))) := Lib.hid ⟨by rw [HCh.out]; exact hO, hf3, hk3, hD3⟩
          clear hO hG hV hf3 hk3 hD3
          gi_wp2_with (fail)
          gi_meet
          case rel => exact ⟨rfl, HF⟩
  case stop =>
    rintro D c pre W _ _ h _
    exact h.elim
end Go.Proofs.YtagmmbkgjomdlaaGreatDoor.Wk

/-
  What the laws of layer 10 want of numbers: to which object a word leads; the references of a cell; which faults a space has, and which one more when one start is turned; the sums of the tally; a header that was turned.
-/
namespace Go.Proofs.YtagmmbkgjomdlaaGreatDoor.Wk
open Go.RowKit Go.Proofs.YtagmmbkgjomdlaaGreatDoor.Ar
open Go.Proofs.YtagmmbkgjomdlaaGreatDoor.Sp hiding Own own_from own_put back_own Seen own_cells seen_one
open Go.Proofs.YtagmmbkgjomdlaaGreatDoor.Sh (wordR wordB addrR ofE ofT ofS hdE hdH stand_of inG inG_iff atG)
open Go.Proofs.YtagmmbkgjomdlaaGreatDoor.Hd (Hd wordI isHead isHead_iff dec_no dec_yes)
open Go.Proofs.YtagmmbkgjomdlaaGreatDoor.Tb (Ty getT)
open Go.Proofs.YtagmmbkgjomdlaaGreatDoor.Bt (hasV bit layB laid_bit)
set_option linter.unusedVariables false

theorem tgt_leads {cs : List Cel} (hin : ∀ c ∈ objs cs, 0 ≤ c.a ∧ c.a < 32768) (u : Int) :
    (leads (objs cs) u = true ∧ tgt cs u = (u - 1048576) / 2 ∧ 0 ≤ tgt cs u) ∨ (leads (objs cs) u = false ∧ tgt cs u = -1) := by
  unfold tgt
  by_cases h : wordB u = true ∧ wordR u % 2 = 0 ∧ beg cs (wordR u / 2) = true
  · rw [if_pos h]
    obtain ⟨h1, h2, h3⟩ := h
    have hb := of_decide_eq_true h1
    have hr : wordR u = u - 1048576 := if_pos hb
    rw [hr] at h2 h3 ⊢
    refine .inl ⟨?_, rfl, by omega⟩
    obtain ⟨c, hc, e⟩ := List.any_eq_true.1 h3
    rw [Bool.and_eq_true, decide_eq_true_iff, decide_eq_true_iff] at e
    exact List.any_eq_true.2 ⟨c, objs_mem.2 ⟨hc, e.2⟩, decide_eq_true (by unfold addrR; rw [if_neg (by omega)]; omega)⟩
  · rw [if_neg h]
    refine .inr ⟨?_, rfl⟩
    cases hl : leads (objs cs) u with
    | false => rfl
    | true =>
      exfalso
      obtain ⟨c, hc, e⟩ := List.any_eq_true.1 hl
      have e := of_decide_eq_true e
      obtain ⟨h1, h2⟩ := hin c hc
      obtain ⟨k1, k2⟩ := objs_mem.1 hc
      unfold addrR at e
      rw [if_neg (by omega)] at e
      subst e
      apply h
      have hb : 1048576 ≤ 1048576 + 2 * c.a ∧ 1048576 + 2 * c.a < 1114112 := by omega
      have hr : wordR (1048576 + 2 * c.a) = 2 * c.a := by unfold wordR; rw [if_pos hb]; omega
      refine ⟨decide_eq_true hb, by rw [hr]; omega, ?_⟩
      rw [hr]
      exact List.any_eq_true.2 ⟨c, k1, by rw [show 2 * c.a / 2 = c.a by omega]; simp [k2]⟩
theorem objs_lt {ws : List Int} {l : List Ty} {cs : List Cel} (hC : Scans ws l 0 cs) (hb : gran ws ≤ 32768) : ∀ c ∈ objs cs, 0 ≤ c.a ∧ c.a < 32768 := by
  intro c hc
  obtain ⟨hc, _⟩ := objs_mem.1 hc
  obtain ⟨⟨a, b⟩, ⟨d, _⟩, _⟩ := scans_cell hC hb c hc
  omega
theorem refs_slR {ws : List Int} {l : List Ty} {cs : List Cel} (hT : ∀ x ∈ l, x.ok ∧ x.fit) (hC : Scans ws l 0 cs) {c : Cel} (hc : c ∈ objs cs) : Kd.refsR (getT l c.h.ty).k (getT l c.h.ty).wd (getT l c.h.ty).ms c.h.ln = slR ws l c.a := by
  have hE := scans_obj hC c hc
  obtain ⟨gn, sl, F⟩ := facts_all hT hE
  have hh := (hC.mem c (objs_mem.1 hc).1).2
  have e1 : getT l c.h.ty = ofT ws l c.a := by unfold ofT; rw [hh]
  have e2 : c.h.ln = (hdH ws c.a).ln := by rw [hh]
  unfold slR
  rw [e1, e2]
  unfold Kd.refsR
  rw [if_pos F.err, F.slots, F.slEq]
/-! ### the starts -/
theorem sAt_told {bs : List Bool} {b : Bool} {g k : Int} (h : hasV bs g = (b != decide (g = k))) : sAt bs b g = if g = k then [⟨k, 0, if b then 3 else 9⟩] else [] := by
  unfold sAt
  rw [h]
  by_cases e : g = k
  · subst e
    cases b <;> simp
  · cases b <;> simp [e]
theorem sF_told {bs : List Bool} {a tg k : Int} : ∀ n : Nat, (∀ i : Nat, i < n → hasV bs (a + (i : Int)) = (decide (i = 0 ∧ tg = 1) != decide (a + (i : Int) = k))) →
    sF bs a tg n = if a ≤ k ∧ k < a + (n : Int) then [⟨k, 0, if decide (k = a ∧ tg = 1) then 3 else 9⟩] else []
  | 0, _ => by rw [if_neg (by omega)]; rfl
  | n + 1, h => by
    rw [sF_snoc, sF_told n fun i hi => h i (by omega), sAt_told (h n (by omega))]
    by_cases e : a + (n : Int) = k
    · have e2 : (n = 0 ∧ tg = 1) ↔ (k = a ∧ tg = 1) := by constructor <;> rintro ⟨h1, h2⟩ <;> exact ⟨by omega, h2⟩
      rw [if_pos e, if_neg (show ¬ (a ≤ k ∧ k < a + (n : Int)) by omega), if_pos (show a ≤ k ∧ k < a + ((n + 1 : Nat) : Int) by omega)]
      simp only [e2, List.nil_append]
    · rw [if_neg e, List.append_nil]
      by_cases e3 : a ≤ k ∧ k < a + (n : Int)
      · rw [if_pos e3, if_pos (show a ≤ k ∧ k < a + ((n + 1 : Nat) : Int) by omega)]
      · rw [if_neg e3, if_neg (show ¬ (a ≤ k ∧ k < a + ((n + 1 : Nat) : Int)) by omega)]
theorem allS_told {ws : List Int} {l : List Ty} {bs : List Bool} {T : Int → Bool} {k : Int} : ∀ {cs : List Cel} {f e : Int}, Tiled ws l f cs e → (∀ c ∈ cs, T c.a = decide (c.h.tg = 1) ∧ ∀ g, c.a < g → g < c.a + c.h.sz → T g = false) →
    (∀ g, f ≤ g → g < e → hasV bs g = (T g != decide (g = k))) → allS bs cs = if f ≤ k ∧ k < e then [⟨k, 0, if T k then 3 else 9⟩] else []
  | [], f, e, h, _, _ => by
    have h : f = e := h
    rw [if_neg (by omega)]
    rfl
  | c :: cs, f, e, h, hT, hb => by
    obtain ⟨h1, h2, h3, h4, h5⟩ := h
    have hz := can_sz h2
    have hle := Tiled.le h5
    have hca : c.a = f := h1
    have ih := allS_told h5 (fun d hd => hT d (by simp [hd])) fun g g0 g1 => hb g (by omega) g1
    obtain ⟨t0, t1⟩ := hT c (by simp)
    have hs := sF_told (bs := bs) (a := c.a) (tg := c.h.tg) (k := k) c.h.sz.toNat fun i hi => by
      rw [hb _ (by omega) (by omega)]
      congr 1
      by_cases hi0 : i = 0
      · subst hi0
        simpa using t0
      · rw [t1 _ (by omega) (by omega)]
        simp [hi0]
    have h6 : allS bs (c :: cs) = cF bs c ++ allS bs cs := by unfold allS; rw [List.flatMap_cons]
    rw [h6, ih]
    unfold cF
    rw [hs]
    by_cases e1 : c.a ≤ k ∧ k < c.a + (c.h.sz.toNat : Int)
    · rw [if_pos e1, if_neg (show ¬ (f + c.h.sz ≤ k ∧ k < e) by omega), if_pos (show f ≤ k ∧ k < e by omega), List.append_nil]
      by_cases e2 : k = c.a
      · rw [e2, t0]
        simp
      · rw [t1 k (by omega) (by omega)]
        simp [e2]
    · rw [if_neg e1, List.nil_append]
      by_cases e2 : f + c.h.sz ≤ k ∧ k < e
      · rw [if_pos e2, if_pos (show f ≤ k ∧ k < e by omega)]
      · rw [if_neg e2, if_neg (show ¬ (f ≤ k ∧ k < e) by omega)]
/-- The starts of a space tell its cells. -/
theorem starts_tell {ws : List Int} {l : List Ty} {bs : List Bool} {cs : List Cel} (h : Snd ws l bs cs) : ∀ c ∈ cs, hasV bs c.a = decide (c.h.tg = 1) ∧ ∀ g, c.a < g → g < c.a + c.h.sz → hasV bs g = false := by
  intro c hc
  obtain ⟨a1, a2, a3, _⟩ := h.tiled.mem c hc
  have hz := can_sz a3
  obtain ⟨A, B, rfl⟩ := List.append_of_mem hc
  obtain ⟨m1, t1, t2⟩ := Tiled.split h.tiled
  have hm : c.a = m1 := t2.1
  have hb : ∀ g : Int, 0 ≤ g → (hasV bs g = true ↔ ∃ d ∈ A ++ c :: B, d.h.tg = 1 ∧ d.a = g) := fun g g0 => by
    unfold hasV
    rw [decide_eq_true g0, Bool.true_and, h.agree]
    constructor
    · rintro ⟨d, hd, e⟩
      exact ⟨d, (objs_mem.1 hd).1, (objs_mem.1 hd).2, by omega⟩
    · rintro ⟨d, hd, e1, e2⟩
      exact ⟨d, objs_mem.2 ⟨hd, e1⟩, by omega⟩
  have hx : ∀ d ∈ A ++ c :: B, d.a < c.a ∨ d = c ∨ c.a + c.h.sz ≤ d.a := fun d d1 => by
    rcases List.mem_append.1 d1 with d1 | d1
    · obtain ⟨b1, b2, b3, _⟩ := t1.mem d d1
      have := can_sz b3
      exact .inl (by omega)
    · rcases List.mem_cons.1 d1 with rfl | d1
      · exact .inr (.inl rfl)
      · have := (Tiled.mem t2.2.2.2.2 d d1).1
        exact .inr (.inr (by omega))
  refine ⟨?_, fun g g0 g1 => ?_⟩
  · rw [Bool.eq_iff_iff, decide_eq_true_iff, hb _ a1]
    constructor
    · rintro ⟨d, hd, e1, e2⟩
      rcases hx d hd with k | rfl | k
      · omega
      · exact e1
      · omega
    · intro ht
      exact ⟨c, hc, ht, rfl⟩
  · cases hv : hasV bs g with
    | false => rfl
    | true =>
      exfalso
      obtain ⟨d, hd, e1, e2⟩ := (hb g (by omega)).1 hv
      rcases hx d hd with k | rfl | k <;> omega
theorem allS_none {ws : List Int} {l : List Ty} {bs : List Bool} {cs : List Cel} (h : Snd ws l bs cs) : allS bs cs = [] := by
  have := allS_told (bs := bs) (T := hasV bs) (k := -1) h.tiled (starts_tell h) fun g g0 _ => by
    rw [decide_eq_false (by omega)]; simp
  rw [this, if_neg (by omega)]
theorem allS_turned {ws : List Int} {l : List Ty} {bs : List Bool} {cs : List Cel} (h : Snd ws l bs cs) {k : Int} (k0 : 0 ≤ k) (k1 : k < gran ws) (st : Bool) (hst : hasV bs k = !st) : allS (layB bs k 1 st) cs = [⟨k, 0, if st then 9 else 3⟩] := by
  have hl := h.len
  have hv : ∀ g, 0 ≤ g → g < gran ws → hasV (layB bs k 1 st) g = (hasV bs g != decide (g = k)) := fun g g0 g1 => by
    unfold layB
    rw [if_pos ((Bt.within_iff _ _ _).2 ⟨by omega, by omega, by omega⟩)]
    unfold hasV
    rw [decide_eq_true g0, Bool.true_and, Bool.true_and, laid_bit _ _ _ _ _ (by omega)]
    by_cases e : g = k
    · subst e
      rw [if_pos (by omega)]
      unfold hasV at hst
      rw [decide_eq_true g0, Bool.true_and] at hst
      rw [hst]
      cases st <;> simp
    · rw [if_neg (by omega)]
      simp [e]
  have := allS_told (bs := layB bs k 1 st) (T := hasV bs) (k := k) h.tiled (starts_tell h) hv
  rw [this, if_pos ⟨k0, k1⟩, hst]
  cases st <;> rfl
theorem endO_tiled {ws : List Int} {l : List Ty} {cs : List Cel} {e : Int} (h : Tiled ws l 0 cs e) : endO cs = e := by
  rcases List.eq_nil_or_concat cs with rfl | ⟨a, c, rfl⟩
  · exact h
  · rw [List.concat_eq_append] at h ⊢
    obtain ⟨m, t1, t2⟩ := Tiled.split h
    have h1 : c.a = m := t2.1
    have h2 : m + c.h.sz = e := t2.2.2.2.2
    rw [endO_snoc]
    omega
theorem frm_none {ws : List Int} {l : List Ty} {bs : List Bool} {cs : List Cel} (h : Snd ws l bs cs) : frmF ws cs = [] := by
  unfold frmF
  rw [endO_tiled h.tiled, if_neg (by omega)]
theorem refF_why (os : List Cel) (rs : List Tri) : ∀ x ∈ refF os rs, x.c = 8 := by
  intro x hx
  obtain ⟨y, _, rfl⟩ := List.mem_map.1 hx
  rfl
/-! ### the tally -/
theorem tally_from : ∀ (cs : List Cel) (t : Tal), (cs.foldl Tal.add t).u + (cs.foldl Tal.add t).e + (cs.foldl Tal.add t).l = t.u + t.e + t.l + tot cs ∧ (cs.foldl Tal.add t).o = t.o + ((objs cs).length : Int)
  | [], t => by
    have h1 : tot [] = 0 := rfl
    have h2 : (objs []).length = 0 := rfl
    rw [h1, h2, List.foldl_nil]
    omega
  | c :: cs, t => by
    obtain ⟨h1, h2⟩ := tally_from cs (t.add c)
    have h3 : tot (c :: cs) = c.h.sz + tot cs := rfl
    have h4 : ((objs (c :: cs)).length : Int) = (if c.h.tg = 1 then 1 else 0) + ((objs cs).length : Int) := by
      unfold objs
      rw [List.filter_cons]
      by_cases h : c.h.tg = 1
      · rw [if_pos (decide_eq_true h), if_pos h, List.length_cons]; omega
      · rw [if_neg (by simpa using h), if_neg h]; omega
    rw [List.foldl_cons, h1, h2, h3, h4]
    unfold Tal.add
    by_cases h : c.h.tg = 1
    · simp only [if_pos h]; omega
    · by_cases h' : c.h.tg = 2
      · simp only [if_neg h, if_pos h']; omega
      · simp only [if_neg h, if_neg h']; omega
theorem tally_sum {ws : List Int} {l : List Ty} {bs : List Bool} {cs : List Cel} (h : Snd ws l bs cs) : (tally cs).u + (tally cs).e + (tally cs).l = gran ws ∧ (tally cs).o = ((objs cs).length : Int) := by
  obtain ⟨h1, h2⟩ := tally_from cs Tal.zero
  rw [tot_of h] at h1
  have z1 : Tal.zero.u = 0 := rfl
  have z2 : Tal.zero.e = 0 := rfl
  have z3 : Tal.zero.l = 0 := rfl
  have z4 : Tal.zero.o = 0 := rfl
  unfold tally
  omega
/-! ### a header that was turned -/
theorem cell_word {ws : List Int} {l : List Ty} {g : Int} (h : cellB ws l g = true) : atG ws g = wordI (hdH ws g) := by
  obtain ⟨s1, _, _⟩ := cellB_iff.1 h
  obtain ⟨c1, c2, c3⟩ := hdE_can s1
  have hin : inG ws.length g 1 = true := (inG_iff _ _ _).2 ⟨c1, by omega⟩
  unfold hdE at s1
  rw [if_pos hin] at s1
  unfold hdH
  rw [if_pos hin]
  cases hh : isHead (atG ws g) with
  | false => rw [(dec_no hh).2] at s1; exact absurd s1 (by decide)
  | true => rw [(dec_yes hh).1, (isHead_iff.1 hh).2]
theorem turned_other {ws : List Int} {l : List Ty} {cs cs' : List Cel} {e : Int} (hT : Tiled ws l 0 cs e) {c : Cel} (hc : c ∈ cs) {ws' : List Int} (hu : atG ws' c.a ≠ atG ws c.a) (hC : Scans ws' l 0 cs') : cs' ≠ cs := by
  rintro rfl
  obtain ⟨k1, k2⟩ := hC.mem c hc
  have h1 := cell_word k1
  obtain ⟨_, _, _, h2, _⟩ := hT.mem c hc
  rw [← k2] at h1
  exact hu (h1.trans h2.symm)
/-- Each fault stands within. -/
theorem chk_in {ws : List Int} {l : List Ty} {bs : List Bool} {cs : List Cel} (hC : Scans ws l 0 cs) (hb : gran ws ≤ 32768) : ∀ x ∈ chkF ws l bs cs, 0 ≤ x.a ∧ x.a < gran ws := by
  intro x hx
  have hsc := scans_cell hC hb
  unfold chkF at hx
  rcases List.mem_append.1 hx with hx | hx
  · rcases List.mem_append.1 hx with hx | hx
    · unfold allS at hx
      obtain ⟨c, hc, hx⟩ := List.mem_flatMap.1 hx
      obtain ⟨⟨a1, a2⟩, ⟨a3, a4⟩, _⟩ := hsc c hc
      unfold cF sF at hx
      obtain ⟨i, hi, hx⟩ := List.mem_flatMap.1 hx
      have hi := List.mem_range.1 hi
      have hxa : x.a = c.a + (i : Int) := by
        revert hx
        unfold sAt
        cases hasV bs (c.a + (i : Int)) <;> cases decide (i = 0 ∧ c.h.tg = 1) <;> simp <;> (rintro rfl; rfl)
      omega
    · unfold frmF at hx
      split at hx
      · rename_i hlt
        rw [List.mem_singleton.1 hx]
        refine ⟨?_, hlt⟩
        show 0 ≤ endO cs
        rcases List.eq_nil_or_concat cs with rfl | ⟨a, c, rfl⟩
        · exact Int.le_refl _
        · rw [List.concat_eq_append] at hsc ⊢
          rw [endO_snoc]
          obtain ⟨⟨a1, a2⟩, ⟨a3, a4⟩, _⟩ := hsc c (by simp)
          omega
      · cases hx
  · unfold refF at hx
    obtain ⟨y, hy, rfl⟩ := List.mem_map.1 hx
    have hy := (List.mem_filter.1 hy).1
    unfold rfs at hy
    obtain ⟨c, hc, hy⟩ := List.mem_flatMap.1 hy
    unfold oneR at hy
    obtain ⟨p, _, rfl⟩ := List.mem_map.1 hy
    obtain ⟨⟨a1, a2⟩, ⟨a3, a4⟩, _⟩ := hsc c (objs_mem.1 hc).1
    show 0 ≤ c.a ∧ c.a < gran ws
    omega
end Go.Proofs.YtagmmbkgjomdlaaGreatDoor.Wk
