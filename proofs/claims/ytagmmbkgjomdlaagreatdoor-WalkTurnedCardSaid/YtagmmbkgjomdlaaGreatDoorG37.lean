/-
  Several texts in one: SpObj, WkRef.
-/
import Derived.Test.YtagmmbkgjomdlaaGreatDoorG31
import Derived.Test.YtagmmbkgjomdlaaGreatDoorG34
import Derived.Test.YtagmmbkgjomdlaaGreatDoorG27
import Derived.Test.YtagmmbkgjomdlaaGreatDoorG21
import Derived.Test.YtagmmbkgjomdlaaGreatDoorG01
/-
  What stands at a granule where an object begins; and what a slot's word becomes.
-/
namespace Go.Proofs.YtagmmbkgjomdlaaGreatDoor.Sp
open Go.RowKit Go.Proofs.YtagmmbkgjomdlaaGreatDoor.Ar Go.Proofs.YtagmmbkgjomdlaaGreatDoor.Sh
open Go.Proofs.YtagmmbkgjomdlaaGreatDoor.Hd (Hd Fields fitE ofL fitL wordI)
open Go.Proofs.YtagmmbkgjomdlaaGreatDoor.Tb (Ty sizeE sizeT getT hasT)
set_option linter.unusedVariables false
theorem facts_all {ws : List Int} {l : List Ty} {g : Int} (hT : ∀ x ∈ l, x.ok ∧ x.fit) (h : ofE ws l g = 0) : ∃ gn sl, Facts ws l g gn sl := by
  have S := stand_of h
  have hto : (ofT ws l g).ok := Tb.getT_ok hT (hdH ws g).ty
  obtain ⟨j0, j1⟩ := (inG_iff _ _ _).1 S.isin
  have hfit := S.fit
  unfold Hd.fitL fitE at hfit
  by_cases hc : (hdH ws g).can
  · rw [if_neg (by simpa using hc), if_neg (by simpa using S.tag)] at hfit
    have hne : ¬ (sizeE l (hdH ws g).ty (hdH ws g).ln ≠ 0 ∨ ofL l (hdH ws g).ty (hdH ws g).ln ≠ hdH ws g) := by
      intro hh
      rw [if_pos hh] at hfit
      cases hfit
    have he : sizeE l (hdH ws g).ty (hdH ws g).ln = 0 := Classical.byContradiction fun e => hne (.inl e)
    have ho : ofL l (hdH ws g).ty (hdH ws g).ln = hdH ws g := Classical.byContradiction fun e => hne (.inr e)
    have hhas : hasT l (hdH ws g).ty = true := by
      cases hx : hasT l (hdH ws g).ty with
      | true => rfl
      | false => unfold sizeE at he; rw [hx, if_neg (by decide)] at he; cases he
    have herr : Kd.err (ofT ws l g).k (ofT ws l g).wd (ofT ws l g).ms (hdH ws g).ln = 0 := by
      unfold sizeE at he
      rw [hhas] at he
      exact he
    obtain ⟨b0, b1⟩ := Kd.slots_bound herr
    have hsz : (hdH ws g).sz = Kd.sizeR (ofT ws l g).k (ofT ws l g).wd (ofT ws l g).ms (hdH ws g).ln := by
      rw [← ho]
      unfold Hd.ofL Hd.ofH
      rw [if_pos he]
      simp only
      unfold sizeT
      rw [hhas]
      rfl
    have hss : ofS ws l g = Kd.slots (ofT ws l g).k (ofT ws l g).wd (hdH ws g).ln := by unfold ofS Kd.slotsR; rw [if_pos herr]
    unfold Kd.sizeR at hsz
    rw [if_pos herr] at hsz
    refine ⟨g.toNat, (ofS ws l g).toNat, by omega, by rw [hss]; omega, hto.1, hto.2, herr, by rw [hss]; omega, ?_⟩
    rw [hss]
    omega
  · rw [if_pos hc] at hfit
    cases hfit

theorem obj_of {ws : List Int} {l : List Ty} {cs : List Cel} {f e : Int} (h : Tiled ws l f cs e) (h0 : 0 ≤ f) (he : e ≤ gran ws) {c : Cel} (hc : c ∈ cs) (ht : c.h.tg = 1) : ofE ws l c.a = 0 ∧ hdH ws c.a = c.h := by
  obtain ⟨k1, k2, k3⟩ := Tiled.cell h h0 he c hc
  obtain ⟨m1, m2, m3, m4, m5⟩ := h.mem c hc
  have hg : gran ws = (ws.length : Int) / 2 := rfl
  refine ⟨?_, k2⟩
  unfold ofE
  rw [if_neg (by simpa using k1), k2, if_neg]
  rintro (h1 | h1 | h1)
  · exact h1 ht
  · exact h1 m5
  · rw [(inG_iff _ _ _).2 ⟨by omega, by omega⟩] at h1
    cases h1
end Go.Proofs.YtagmmbkgjomdlaaGreatDoor.Sp

/-
  The references of objects; what a view at an object gives.
-/
namespace Go.Proofs.YtagmmbkgjomdlaaGreatDoor.Wk
open Go.RowKit Go.Proofs.YtagmmbkgjomdlaaGreatDoor.Ar Go.Proofs.YtagmmbkgjomdlaaGreatDoor.Sp
open Go.Proofs.YtagmmbkgjomdlaaGreatDoor.Sh (View Src Facts facts_of ofE ofT ofS pairs slotsOf hdH OfPost of_ok vrefs_ok vload_ok vloadV slotE)
open Go.Proofs.YtagmmbkgjomdlaaGreatDoor.Hd (Hd Fields)
open Go.Proofs.YtagmmbkgjomdlaaGreatDoor.Tb (Ty Tab)
set_option linter.unusedVariables false

theorem slotsOf_pairs (ws : List Int) (g : Int) (t : Ty) (sl : Nat) : slotsOf (pairs ws g t sl) = Kd.refsTo t.k t.wd t.ms sl := by
  unfold slotsOf pairs
  rw [List.map_map]
  have : ((fun x : Int × Int => x.1) ∘ fun r => (r, ws.getD (2 * g + 1 + r).toNat 0)) = id := rfl
  rw [this, List.map_id]
/-- The references of the object at a granule: the granule, the slot, the word. -/
def oneR (ws : List Int) (l : List Ty) (g : Int) : List Tri := (pairs ws g (ofT ws l g) (ofS ws l g).toNat).map fun p => ⟨g, p.1, p.2⟩
def rfs (ws : List Int) (l : List Ty) (os : List Cel) : List Tri := os.flatMap fun c => oneR ws l c.a
theorem rfs_snoc (ws : List Int) (l : List Ty) (os : List Cel) (c : Cel) : rfs ws l (os ++ [c]) = rfs ws l os ++ oneR ws l c.a := by simp [rfs]
theorem rfs_cut (ws : List Int) (l : List Ty) {os : List Cel} {i : Nat} (h : i < os.length) : rfs ws l os = rfs ws l (os.take i) ++ oneR ws l (os.getD i Cel.zero).a ++ rfs ws l (os.drop (i + 1)) := by
  rw [← rfs_snoc, ← cel_take h]
  unfold rfs
  rw [← List.flatMap_append, List.take_append_drop]
theorem rfs_take (ws : List Int) (l : List Ty) {os : List Cel} {i : Nat} (h : i < os.length) : rfs ws l (os.take (i + 1)) = rfs ws l (os.take i) ++ oneR ws l (os.getD i Cel.zero).a := by
  rw [cel_take h, rfs_snoc]
/-- What holds of an object's place. -/
structure Obj1 (ws : List Int) (l : List Ty) (g : Int) (gn sl : Nat) : Prop where
  e : ofE ws l g = 0
  f : Facts ws l g gn sl
theorem Obj1.one {ws : List Int} {l : List Ty} {g : Int} {gn sl : Nat} (h : Obj1 ws l g gn sl) : oneR ws l g = (Kd.refsTo (ofT ws l g).k (ofT ws l g).wd (ofT ws l g).ms sl).map fun r => ⟨g, r, ws.getD (2 * g + 1 + r).toNat 0⟩ := by
  unfold oneR pairs
  rw [List.map_map, h.f.slEq, Int.toNat_natCast]
  rfl
/-- The slots that are gone over. -/
def slR (ws : List Int) (l : List Ty) (g : Int) : List Int := Kd.refsTo (ofT ws l g).k (ofT ws l g).wd (ofT ws l g).ms (ofS ws l g).toNat
theorem one_slots (ws : List Int) (l : List Ty) (g : Int) : oneR ws l g = (slR ws l g).map fun r => ⟨g, r, ws.getD (2 * g + 1 + r).toNat 0⟩ := by
  unfold oneR pairs slR
  rw [List.map_map]
  rfl
theorem slR_mem {ws : List Int} {l : List Ty} {g r : Int} {gn sl : Nat} (h : Obj1 ws l g gn sl) (hr : r ∈ slR ws l g) : 0 ≤ r ∧ r < sl := by
  unfold slR at hr
  rw [h.f.slEq, Int.toNat_natCast] at hr
  obtain ⟨n, rfl, hn⟩ := Sh.refsTo_mem hr
  omega
theorem slR_len (ws : List Int) (l : List Ty) (g : Int) : (slR ws l g).length ≤ (ofS ws l g).toNat := by
  unfold slR Kd.refsTo
  rw [List.length_map]
  refine Nat.le_trans (List.length_filter_le _ _) ?_
  rw [List.length_range]
  exact Nat.le_refl _
theorem one_take {ws : List Int} {l : List Ty} {g : Int} {j : Nat} (h : j < (slR ws l g).length) : (oneR ws l g).take (j + 1) = (oneR ws l g).take j ++ [⟨g, (slR ws l g).getD j 0, ws.getD (2 * g + 1 + (slR ws l g).getD j 0).toNat 0⟩] := by
  rw [one_slots, List.take_add_one, List.getElem?_map, List.getElem?_eq_getElem h, List.getD_eq_getElem?_getD, List.getElem?_eq_getElem h]
  rfl
theorem one_len (ws : List Int) (l : List Ty) (g : Int) : (oneR ws l g).length = (slR ws l g).length := by rw [one_slots, List.length_map]
namespace Good
variable {X Y : World} {pa pt : Option Addr} {l : List Ty} {ws : List Int}
/-- An object's place and what Of, Refs and Load answer there. -/
theorem obj (h : Good X pa pt l ws) {g : Int} (he : ofE ws l g = 0) : ∃ gn sl, Obj1 ws l g gn sl ∧ sl ≤ 65536 ∧ (0 ≤ g ∧ g ≤ 65536) := by
  have S := Sh.stand_of he
  rcases h.2 with ⟨_, rfl⟩ | ⟨ap, aq, m, tp, A, c, rfl, rfl, ha, ht, hw⟩
  · have := (Sp.hdE_can S.he).2.1
    have := (Sp.hdE_can S.he).1
    simp at *
    omega
  · obtain ⟨gn, sl, F⟩ := facts_of ht he
    have hs := ha.short
    have := F.room
    have := F.gEq
    exact ⟨gn, sl, ⟨he, F⟩, by omega, by omega, by omega⟩
def Vk (X : World) (v : Nat) (pa : Option Addr) (ws : List Int) (l : List Ty) (g : Int) : Prop := ∃ ap, pa = some ⟨ap, 0, none⟩ ∧ View X v ap g (hdH ws g) (ofT ws l g) (ofS ws l g)
theorem of (h : Good X pa pt l ws) {g : Int} (he : ofE ws l g = 0) : Calls Tryz.prog 35 #[.pointer pa, .pointer pt, .int .i64 g] X fun e Y => ∃ v, e = .returned (.tuple #[.pointer (some ⟨v, 0, none⟩), .int .i64 0]) ∧ X.heap.size ≤ v ∧ Vk Y v pa ws l g ∧ Kept [] X Y := by
  obtain ⟨gn, sl, o, hsl, g0, g1⟩ := h.obj he
  rcases h.2 with ⟨_, rfl⟩ | ⟨ap, aq, m, tp, A, c, rfl, rfl, ha, ht, hw⟩
  · have S := Sh.stand_of he
    have := (Sp.hdE_can S.he).2.1
    simp at this
    omega
  · refine (of_ok h.1 ha (Sh.wds_of hw) ht g (by omega) (by omega)).mono ?_
    rintro e Y ⟨k, ⟨hn, _⟩ | ⟨_, v, rfl, hv, H⟩⟩
    · exact absurd he hn
    · exact ⟨v, rfl, hv, ⟨ap, rfl, H⟩, k⟩
theorem refs (h : Good X pa pt l ws) {g : Int} (he : ofE ws l g = 0) {v : Nat} (hv : Vk X v pa ws l g) : Calls Tryz.prog 101 #[.pointer (some ⟨v, 0, none⟩)] X fun e Y => ∃ u, e = .returned u ∧ Ir.Own Y u (slR ws l g) ∧ Sh.FreshV X u ∧ Kept [] X Y := by
  obtain ⟨gn, sl, o, hsl, g0, g1⟩ := h.obj he
  obtain ⟨ap, rfl, H⟩ := hv
  rcases h.2 with ⟨h1, _⟩ | ⟨ap', aq, m, tp, A, c, e1, _, ha, ht, hw⟩
  · cases h1
  · injection e1 with e1
    injection e1 with e1
    subst e1
    have e2 : slotsOf (pairs ws gn (ofT ws l g) sl) = slR ws l g := by
      rw [slotsOf_pairs]
      unfold slR
      rw [o.f.slEq, Int.toNat_natCast]
    rw [← e2]
    have hgE := o.f.gEq
    refine vrefs_ok X _ _ (.inr ⟨v, ap, aq, m, gn, hdH ws g, ofT ws l g, sl, ws, rfl, by rw [← hgE, ← o.f.slEq]; exact H, ha, o.f.k, o.f.ms, o.f.err, o.f.slots, o.f.room, rfl⟩) ?_
    unfold pairs
    rw [List.length_map]
    have := slR_len ws l g
    unfold slR at this
    rw [o.f.slEq, Int.toNat_natCast] at this
    omega
theorem load (h : Good X pa pt l ws) {g : Int} (he : ofE ws l g = 0) {v : Nat} (hv : Vk X v pa ws l g) {r : Int} (hr : r ∈ slR ws l g) : Calls Tryz.prog 102 #[.pointer (some ⟨v, 0, none⟩), .int .i64 r] X fun e Y => e = .returned (.tuple #[.int .u64 (ws.getD (2 * g + 1 + r).toNat 0), .int .i64 0]) ∧ X = Y := by
  obtain ⟨gn, sl, o, hsl, g0, g1⟩ := h.obj he
  obtain ⟨r0, r1⟩ := slR_mem o hr
  obtain ⟨ap, rfl, H⟩ := hv
  rcases h.2 with ⟨h1, _⟩ | ⟨ap', aq, m, tp, A, c, e1, _, ha, ht, hw⟩
  · cases h1
  · injection e1 with e1
    injection e1 with e1
    subst e1
    have hroom := o.f.room
    have hgE := o.f.gEq
    have := vload_ok H ha r g0 (by rw [o.f.slEq]; omega) (by rw [o.f.slEq]; omega)
    unfold vloadV slotE at this
    rw [o.f.slEq, if_pos ⟨r0, r1⟩, if_pos ⟨r0, r1⟩] at this
    exact this
end Good
abbrev ElR (rs : List Tri) := { x : Tri // x ∈ rs }
def encR {rs : List Tri} (x : ElR rs) : Array Value := #[.agg #[.int .i64 x.1.a, .int .i64 x.1.b, .int .u64 x.1.c]]
def valsR {rs : List Tri} (xs : List (ElR rs)) : List Tri := xs.map (·.1)
theorem valsR_snoc {rs : List Tri} (xs : List (ElR rs)) (x : ElR rs) : valsR (xs ++ [x]) = valsR xs ++ [x.1] := by simp [valsR]
theorem Vk.kpn {X Y : World} {S : List Nat} {v : Nat} {pa : Option Addr} {ws : List Int} {l : List Ty} {g : Int} (h : Good.Vk X v pa ws l g) (hv : v ∉ S ∧ ∀ b ∈ S, ownAt X b ≠ some v) (k : Kpn S X Y) : Good.Vk Y v pa ws l g := by
  obtain ⟨ap, e, H⟩ := h
  exact ⟨ap, e, ⟨k.has hv H.row⟩⟩
theorem Vk.keep0 {X Y : World} {v : Nat} {pa : Option Addr} {ws : List Int} {l : List Ty} {g : Int} (h : Good.Vk X v pa ws l g) (k : Kept [] X Y) : Good.Vk Y v pa ws l g := by
  obtain ⟨ap, e, H⟩ := h
  exact ⟨ap, e, H.keep0 k⟩
theorem ir_seen {X : World} {A : Option Addr} {n c : Nat} {L : List Int} (h : Ir.Own X (.slice A n c) L) : Ir.Seen X A L := by
  obtain ⟨A', c', e, hb⟩ := Ir.back_own (Kept.refl [] X) h
  injection e with e1
  subst e1
  exact hb.2.1
/-- A row of slots under rounds that turn other boxes. -/
theorem ir_kpn {X Y : World} {S : List Nat} {u : Value} {L : List Int} (h : Ir.Own X u L) (hu : ∀ g, u.ownBlock = some g → g ∉ S ∧ ∀ b ∈ S, ownAt X b ≠ some g) (k : Kpn S X Y) : Ir.Own Y u L := by
  refine ⟨h.1, ?_⟩
  rcases h.2 with hn | ⟨g, cap, cur, rfl, hb, hg, rest⟩
  · exact .inl hn
  · refine .inr ⟨g, cap, cur, rfl, hb, ?_, rest⟩
    exact k.same g _ (hu g rfl).1 (hu g rfl).2 hg rfl
end Go.Proofs.YtagmmbkgjomdlaaGreatDoor.Wk
