/-
  Several texts in one: HdOfLaw, HdFitLaw, ShMake, ShWm.
-/
import Derived.Test.YtagmmbkgjomdlaaGreatDoorG13
import Derived.Test.YtagmmbkgjomdlaaGreatDoorG12
import Derived.Test.YtagmmbkgjomdlaaGreatDoorG14
import Derived.Test.YtagmmbkgjomdlaaGreatDoorG06
import Derived.RegionTactic
import Derived.Deep.RegionWith
/-
  What the laws on tables' headers hand on: contracts of Of and Fits, of a table, of none, of the document's row.
-/
namespace Go.Proofs.YtagmmbkgjomdlaaGreatDoor.Hd
open Go.RowKit Go.Proofs.YtagmmbkgjomdlaaGreatDoor.Ar
set_option linter.unusedVariables false
open Go.Proofs.YtagmmbkgjomdlaaGreatDoor.Tb (Ty Tab Seen Made NewPost RowPost newF newF_len addE sizeT sizeE)

/-- An error of Of's is like any other to Fits. -/
theorem fit_err (o : Hd) (oe : Int) (x : Hd) (h : oe ≠ 0) : fitE o oe x = fitE Hd.zero 1 x := by
  unfold fitE
  have h1 : (oe ≠ 0 ∨ o ≠ x) := .inl h
  have h2 : ((1 : Int) ≠ 0 ∨ Hd.zero ≠ x) := .inl (by decide)
  rw [if_pos h1, if_pos h2]
/-- The header of an object of a list's types. -/
def ofL (l : List Ty) (i n : Int) : Hd := ofH i n (sizeT l i n) (sizeE l i n)
def fitL (l : List Ty) (x : Hd) : Int := fitE (ofL l x.ty x.ln) (sizeE l x.ty x.ln) x
section
variable {w : World} {A : Option Addr} {c p : Nat} {l : List Ty}
theorem of_tab (h : Tab w p A c l) (i n : Int) (hi0 : -9223372036854775808 ≤ i) (hi1 : i ≤ 9223372036854775807) :
    Calls Tryz.prog 70 #[.pointer (some ⟨p, 0, none⟩), .int .i64 i, .int .i64 n] w fun e w' => e = .returned (.tuple #[(ofL l i n).val, .int .i64 (sizeE l i n)]) ∧ Kept [] w w' :=
  of_ok _ i n (sizeT l i n) (sizeE l i n) fun y k => Tb.size_ok (h.keep0 k) i n hi0 hi1
theorem of_nil (i n : Int) : Calls Tryz.prog 70 #[.pointer none, .int .i64 i, .int .i64 n] w fun e w' => e = .returned (.tuple #[Hd.zero.val, .int .i64 1]) ∧ Kept [] w w' :=
  of_ok _ i n 0 1 fun y k => Tb.size_nil y i n
theorem dof_row (hS : Seen w A l) (hok : ∀ x ∈ l, x.ok ∧ x.fit) (hlen : l.length ≤ 100000) (i n : Int) (hi0 : -9223372036854775808 ≤ i) (hi1 : i ≤ 9223372036854775807) :
    Calls Tryz.prog 85 #[.slice A l.length c, .int .i64 i, .int .i64 n] w fun e w' => e = .returned (.tuple #[(ofL l i n).val, .int .i64 (sizeE l i n)]) ∧ Kept [] w w' :=
  dof_ok _ i n (sizeT l i n) (sizeE l i n) fun y k => Tb.dsize_ok (c := c) (hS.keep0 k) hok hlen i n hi0 hi1
theorem fits_tab (h : Fields w) (hT : Tab w p A c l) (x : Hd) (ok : x.ok) :
    Calls Tryz.prog 76 #[.pointer (some ⟨p, 0, none⟩), x.val] w fun e w' => e = .returned (.int .i64 (fitL l x)) ∧ Kept [] w w' :=
  fits_ok h _ x ok _ _ fun y k => of_tab (hT.keep0 k) x.ty x.ln ok.t0 ok.t1
theorem dfits_row (hS : Seen w A l) (hok : ∀ x ∈ l, x.ok ∧ x.fit) (hlen : l.length ≤ 100000) (x : Hd) (ok : x.ok) :
    Calls Tryz.prog 95 #[.slice A l.length c, x.val] w fun e w' => e = .returned (.int .i64 (fitL l x)) ∧ Kept [] w w' :=
  dfits_ok _ x ok _ _ fun y k => dof_row (hS.keep0 k) hok hlen x.ty x.ln ok.t0 ok.t1
end
end Go.Proofs.YtagmmbkgjomdlaaGreatDoor.Hd

/-
  What the law HeadFits says, in numbers.
-/
namespace Go.Proofs.YtagmmbkgjomdlaaGreatDoor.Hd
open Go.RowKit Go.Proofs.YtagmmbkgjomdlaaGreatDoor.Ar
set_option linter.unusedVariables false
open Go.Proofs.YtagmmbkgjomdlaaGreatDoor.Tb (Ty Tab Seen Made NewPost RowPost newF newF_len addE sizeT sizeE hasT getT)

/-- An object that is possible: its header is valid, and what it is. -/
theorem of_facts {l : List Ty} {i n : Int} (h : sizeE l i n = 0) (hl : l.length ≤ 64) : ∃ sz, ofL l i n = ⟨1, i, n, sz⟩ ∧ 1 ≤ sz ∧ sz ≤ 40000 ∧ 1 ≤ i ∧ i ≤ 64 ∧ 0 ≤ n ∧ n ≤ 4096 := by
  unfold ofL ofH
  rw [if_pos h]
  unfold sizeT
  unfold sizeE at h
  have hh : hasT l i = true := by
    cases hx : hasT l i with
    | true => rfl
    | false => rw [hx, if_neg (by decide)] at h; exact absurd h (by decide)
  rw [hh] at h ⊢
  simp only [if_true] at h ⊢
  have hi := of_decide_eq_true hh
  refine ⟨_, rfl, ?_⟩
  obtain ⟨b0, b1⟩ := Kd.slots_bound h
  have hn : 0 ≤ n ∧ n ≤ 4096 := by
    unfold Kd.err at h
    split at h
    · cases h
    · split at h
      · cases h
      · omega
  unfold Kd.sizeR
  rw [if_pos h]
  omega
theorem fit_of {l : List Ty} {i n sz : Int} (ho : ofL l i n = ⟨1, i, n, sz⟩) (he : sizeE l i n = 0) (c : (Hd.mk 1 i n sz).can) : fitL l ⟨1, i, n, sz⟩ = 0 := by
  unfold fitL fitE
  simp only
  rw [if_neg (fun h => h c), if_neg (by simp), ho, he, if_neg (by simp)]
theorem can_obj {i n z : Int} (h0 : 1 ≤ i) (h1 : i ≤ 4095) (h2 : 0 ≤ n) (h3 : n ≤ 16777215) (h4 : 1 ≤ z) (h5 : z ≤ 16777215) : (Hd.mk 1 i n z).can := ⟨⟨h4, h5, h2, h3⟩, .inl ⟨rfl, h0, h1⟩⟩
end Go.Proofs.YtagmmbkgjomdlaaGreatDoor.Hd

/-
  The contract of Make.
-/
namespace Go.Proofs.YtagmmbkgjomdlaaGreatDoor.Sh
open Go.RowKit Go.Proofs.YtagmmbkgjomdlaaGreatDoor.Ar
open Go.Proofs.YtagmmbkgjomdlaaGreatDoor.Hd (Hd Fields encW errH ofL of_tab encode_ok cells4 free4 of_facts can_obj errH_yes)
open Go.Proofs.YtagmmbkgjomdlaaGreatDoor.Tb (Ty Tab getT hasT sizeE sizeT)
set_option linter.unusedVariables false

/-- The words of an object, laid at the granule g: its header's, and zeros. -/
def layG (ws : List Int) (g u z : Int) : List Int := putW ws (2 * g).toNat (u :: List.replicate (2 * z - 1).toNat 0)
def makeE (L : Nat) (l : List Ty) (g i n : Int) : Int := if sizeE l i n ≠ 0 then sizeE l i n else if inG L g (ofL l i n).sz then 0 else 2
def makeW (ws : List Int) (l : List Ty) (g i n : Int) : List Int := if makeE ws.length l g i n = 0 then layG ws g (encW (ofL l i n)) (ofL l i n).sz else ws
theorem put_put (ws : List Int) (i : Nat) (u : Int) (r : List Int) (h : i + 1 + r.length ≤ ws.length) : putW (putW ws i [u]) (i + 1) r = putW ws i (u :: r) := by
  unfold putW
  have e1 : (ws.take i ++ ([u] ++ ws.drop (i + [u].length))).take (i + 1) = ws.take i ++ [u] := by
    rw [← List.append_assoc, List.take_append_of_le_length (by simp; omega), List.take_of_length_le (by simp; omega)]
  have e2 : (ws.take i ++ ([u] ++ ws.drop (i + [u].length))).drop (i + 1 + r.length) = ws.drop (i + (u :: r).length) := by
    rw [← List.append_assoc, List.drop_append, List.drop_eq_nil_of_le (by simp; omega), List.nil_append, List.drop_drop]
    congr 1
    simp only [List.length_append, List.length_take, List.length_cons, List.length_nil]
    omega
  rw [e1, e2]
  simp
theorem lay_two (ws : List Int) (g u z : Int) (h : inG ws.length g z = true) (hz : 1 ≤ z) : fillW (fillW ws (2 * g) 1 u) (2 * g + 1) (z * 2 - 1) 0 = layG ws g u z := by
  obtain ⟨h0, h1⟩ := (inG_iff _ _ _).1 h
  have hw : Ar.within ws.length (2 * g) 1 = true := (Ar.within_iff _ _ _).2 ⟨by omega, by omega, by omega⟩
  have e1 : fillW ws (2 * g) 1 u = putW ws (2 * g).toNat [u] := by unfold fillW; rw [if_pos hw]; rfl
  have hl : (putW ws (2 * g).toNat [u]).length = ws.length := putW_length _ _ _ (by simp; omega)
  have hw2 : Ar.within ws.length (2 * g + 1) (z * 2 - 1) = true := (Ar.within_iff _ _ _).2 ⟨by omega, by omega, by omega⟩
  rw [e1]
  unfold fillW layG
  rw [hl, if_pos hw2, show (2 * g + 1).toNat = (2 * g).toNat + 1 by omega, show (z * 2 - 1).toNat = (2 * z - 1).toNat by omega]
  exact put_put _ _ _ _ (by rw [List.length_replicate]; omega)
section
variable {w : World}
def MakePost (w : World) (p q : Nat) (ws : List Int) (l : List Ty) (g i n : Int) (e : Ending) (w' : World) : Prop :=
  e = .returned (.int .i64 (makeE ws.length l g i n)) ∧ (∃ m, Arena w' p q (makeW ws l g i n) m) ∧ Kept [p, q] w w'
set_option maxRecDepth 100000 in
set_option maxHeartbeats 2000000 in
theorem make_ok (hF : Fields w) {p q : Nat} {ws : List Int} {m : Int} (h : Arena w p q ws m) {tp : Nat} {A : Option Addr} {c : Nat} {l : List Ty} (hT : Tab w tp A c l) (g i n : Int) (g0 : -9223372036854775808 ≤ g) (g1 : g ≤ 9223372036854775807) (i0 : -9223372036854775808 ≤ i) (i1 : i ≤ 9223372036854775807) :
    Calls Tryz.prog 73 #[.pointer (some ⟨p, 0, none⟩), .pointer (some ⟨tp, 0, none⟩), .int .i64 g, .int .i64 i, .int .i64 n] w (MakePost w p q ws l g i n) := by
  have HO := Lib.hid (of_tab hT i n i0 i1)
  have hl64 := hT.len
  have hs := h.short
  unfold MakePost makeW makeE
  by_cases he : sizeE l i n = 0
  · obtain ⟨sz, ho, s1, s2, i2, i3, n1, n2⟩ := of_facts he hl64
    have hcan : (Hd.Hd.mk 1 i n sz).can := can_obj (by omega) (by omega) (by omega) (by omega) (by omega) (by omega)
    have okH : (Hd.Hd.mk 1 i n sz).ok := by constructor <;> simp <;> omega
    have HI := Lib.hid (fun y (k : Kept [] w y) => within_ok (h.keep0 k) g sz g1 (by omega) (by omega))
    have HN : Hid (∀ y : World, Has (y.alloc (.cells #[.int .u8 1, .int .i64 i, .int .i64 n, .int .i64 sz] 76)) y.heap.size 76 [.int .u8 1, .int .i64 i, .int .i64 n, .int .i64 sz]) := Lib.hid fun y => Has.new y _ _
    rw [he, ho] at HO
    rw [if_neg (by simpa using he), ho]
    unfold Hd.val at HO
    simp only at HO ⊢
    cases hc : inG ws.length g sz with
    | false =>
      rw [hc] at HI
      simp only [Bool.false_eq_true, if_false]
      have HA := Lib.hid h
      clear h hT hF ho okH hcan he hc
      go_enter Tryz.func73, Tryz.ntmps73
      go_wp2_with fail
      refine HO.out.mono ?_
      rintro e x1 ⟨rfl, k1⟩
      have K1 := Lib.hid (k1.alloc (.cells #[.int .u8 1, .int .i64 i, .int .i64 n, .int .i64 sz] 76))
      have b1 := HN.out x1
      obtain ⟨c0, c1, c2, c3⟩ := cells4 b1
      clear k1 b1 HO HN
      go_wp2_with fail
      refine (HI.out _ K1.out).mono ?_
      rintro e x3 ⟨rfl, rfl⟩
      go_wp2_with fail
      go_ret
      exact ⟨rfl, ⟨m, HA.out.keep0 K1.out⟩, K1.out.none _⟩
    | true =>
      obtain ⟨j0, j1⟩ := (inG_iff _ _ _).1 hc
      have HEn := Lib.hid (fun y (k : Kept [] w y) => encode_ok (hF.keep0 k) ⟨1, i, n, sz⟩ okH)
      rw [errH_yes hcan] at HEn
      have HX := Lib.hid (fun (y : World) => first_ok (w := y) g (by omega) (by omega))
      have hlw := lay_two ws g (encW ⟨1, i, n, sz⟩) sz hc s1
      generalize encW ⟨1, i, n, sz⟩ = u at *
      have hw : Ar.within ws.length (2 * g) 1 = true := (Ar.within_iff _ _ _).2 ⟨by omega, by omega, by omega⟩
      have hst : Hid (∀ y, Kept [] w y → Calls Tryz.prog 33 #[.pointer (some ⟨p, 0, none⟩), .int .i64 (2 * g), .int .u64 u] y fun e w' => e = .returned (.int .i64 0) ∧ Arena w' p q (fillW ws (2 * g) 1 u) (fillN ws m (2 * g) 1) ∧ Kept [p, q] y w') := Lib.hid fun y k => by
        have := store_any (h.keep0 k) (2 * g) u (by omega) (by omega)
        rw [hw] at this
        exact this
      have hl2 := fillW_length ws (2 * g) 1 u
      have hw2 : Ar.within (fillW ws (2 * g) 1 u).length (2 * g + 1) (sz * 2 - 1) = true := (Ar.within_iff _ _ _).2 ⟨by omega, by omega, by omega⟩
      have hfl : Hid (∀ y, Arena y p q (fillW ws (2 * g) 1 u) (fillN ws m (2 * g) 1) → Calls Tryz.prog 69 #[.pointer (some ⟨p, 0, none⟩), .int .i64 (2 * g + 1), .int .i64 (sz * 2 - 1), .int .u64 0] y fun e w' => e = .returned (.int .i64 0) ∧ (∃ m, Arena w' p q (layG ws g u sz) m) ∧ Kept [p, q] y w') := Lib.hid fun y k => by
        have := fill_any k (2 * g + 1) (sz * 2 - 1) 0 (by omega) (by omega) (by omega) (by omega)
        rw [hw2, hlw] at this
        exact this.mono fun e w' ⟨a, b, c⟩ => ⟨a, ⟨_, b⟩, c⟩
      have hpq : ∀ x, x ∈ [p, q] → x < w.heap.size := by
        intro x hx
        simp at hx
        rcases hx with rfl | rfl
        · exact h.head.lt
        · exact h.row.lt
      have Hpq := Lib.hid hpq
      rw [hc] at HI
      simp only [if_true]
      clear hpq h hT hF ho okH hcan he hc hlw hw hw2 hl2
      generalize fillW ws (2 * g) 1 u = ws1 at *
      generalize fillN ws m (2 * g) 1 = m1 at *
      generalize layG ws g u sz = ws2 at *
      unfold Hd.val at HEn
      simp only at HEn
      go_enter Tryz.func73, Tryz.ntmps73
      go_wp2_with fail
      refine HO.out.mono ?_
      rintro e x1 ⟨rfl, k1⟩
      have K1 := Lib.hid (k1.alloc (.cells #[.int .u8 1, .int .i64 i, .int .i64 n, .int .i64 sz] 76))
      have b1 := HN.out x1
      obtain ⟨c0, c1, c2, c3⟩ := cells4 b1
      have HB1 := Lib.hid b1
      have Hge := Lib.hid k1.more
      clear k1 b1 HO HN
      go_wp2_with fail
      generalize x1.alloc (.cells #[.int .u8 1, .int .i64 i, .int .i64 n, .int .i64 sz] 76) = y1 at *
      generalize x1.heap.size = hb at *
      refine (HI.out _ K1.out).mono ?_
      rintro e x3 ⟨rfl, rfl⟩
      go_wp2_with fail
      refine (HEn.out _ K1.out).mono ?_
      rintro e x2 ⟨rfl, k2⟩
      have K2 := Lib.hid (K1.out.trans k2)
      have HB2 := Lib.hid (HB1.out.keep0 k2)
      clear k2 HEn K1 HB1 c0 c1 c2 c3 HI
      go_wp2_with fail
      refine (HX.out _).mono ?_
      rintro e x3 ⟨rfl, rfl⟩
      go_wp2_with fail
      refine (hst.out _ K2.out).mono ?_
      rintro e x3 ⟨rfl, a3, k3⟩
      have hnb : hb ∉ [p, q] := fun hx => by have := Hpq.out hb hx; have := Hge.out; omega
      have b3 := HB2.out.kept k3 hnb
      have HA3 := Lib.hid a3
      have HK3 := Lib.hid ((K2.out.none [p, q]).trans k3)
      obtain ⟨c0, c1, c2, c3⟩ := cells4 b3
      clear a3 k3 hnb b3 hst K2 HB2
      go_wp2_with fail
      have w1 : Hid (IntKind.i64.wrap (2 * g + 1) = 2 * g + 1 ∧ IntKind.i64.wrap (sz * 2) = sz * 2 ∧ IntKind.i64.wrap (sz * 2 - 1) = sz * 2 - 1) := Lib.hid ⟨by rw [IntKind.wrap_i64]; omega, by rw [IntKind.wrap_i64]; omega, by rw [IntKind.wrap_i64]; omega⟩
      go_region_with (first | (go_at_call 116; refine (HX.out _).mono ?_; rintro e w1 ⟨rfl, rfl⟩) | (go_at_call 69; rw [w1.out.1, w1.out.2.1, w1.out.2.2]; refine (hfl.out _ (by first | exact HA3.out | exact HA3.out.drewN _)).mono ?_; rintro e w1 ⟨rfl, a4, k4⟩))
      all_goals go_wp2_with fail
      all_goals go_ret
      all_goals exact ⟨rfl, a4, (HK3.out.drewN _).trans k4⟩
  · have hn : (sizeE l i n != 0) = true := by rw [bne_iff_ne]; exact he
    rw [if_pos he, if_neg he]
    have HA := Lib.hid h
    unfold Hd.val at HO
    clear h hT hF he
    generalize sizeE l i n = er at *
    go_enter Tryz.func73, Tryz.ntmps73
    go_wp2_with fail
    refine HO.out.mono ?_
    rintro e x1 ⟨rfl, k1⟩
    have K1 := Lib.hid k1
    clear k1 HO
    go_wp2_with fail
    go_ret
    exact ⟨rfl, ⟨m, HA.out.keep0 (K1.out.alloc _)⟩, (K1.out.alloc _).none _⟩
end
end Go.Proofs.YtagmmbkgjomdlaaGreatDoor.Sh

/-
  Rows of words: what Make lays keeps them so.
-/
namespace Go.Proofs.YtagmmbkgjomdlaaGreatDoor.Sh
open Go.RowKit Go.Proofs.YtagmmbkgjomdlaaGreatDoor.Ar
open Go.Proofs.YtagmmbkgjomdlaaGreatDoor.Hd (Hd Fields encW ofL of_facts can_obj encW_yes word_range fitE)
open Go.Proofs.YtagmmbkgjomdlaaGreatDoor.Tb (Ty getT hasT sizeE sizeT)
set_option linter.unusedVariables false

/-- All numbers of a row are words. -/
def Wm (ws : List Int) : Prop := ∀ v ∈ ws, 0 ≤ v ∧ v < 18446744073709551616
theorem Wm.wds {ws : List Int} (h : Wm ws) : Wds ws := wds_of h
theorem Wm.zeros (k : Nat) : Wm (List.replicate k 0) := fun v hv => by rw [List.eq_of_mem_replicate hv]; decide
theorem Wm.put {ws l : List Int} (i : Nat) (h : Wm ws) (hl : Wm l) : Wm (putW ws i l) := by
  intro v hv
  unfold putW at hv
  rcases List.mem_append.1 hv with hv | hv
  · exact h v (List.mem_of_mem_take hv)
  · rcases List.mem_append.1 hv with hv | hv
    · exact hl v hv
    · exact h v (List.mem_of_mem_drop hv)
theorem Wm.set {ws : List Int} (i : Nat) (u : Int) (h : Wm ws) (hu : 0 ≤ u ∧ u < 18446744073709551616) : Wm (ws.set i u) := by
  intro v hv
  rcases List.mem_or_eq_of_mem_set hv with hv | rfl
  · exact h v hv
  · exact hu
theorem Wm.make {ws : List Int} {l : List Ty} {g i n : Int} (h : Wm ws) (hl : l.length ≤ 64) : Wm (makeW ws l g i n) := by
  unfold makeW
  split
  · rename_i hm
    unfold layG
    refine h.put _ ?_
    intro v hv
    rcases List.mem_cons.1 hv with rfl | hv
    · have he : sizeE l i n = 0 := by
        unfold makeE at hm
        by_cases c : sizeE l i n = 0
        · exact c
        · rw [if_pos c] at hm; exact absurd hm c
      obtain ⟨sz, ho, s1, s2, i2, i3, n1, n2⟩ := of_facts he hl
      have hcan : (Hd.Hd.mk 1 i n sz).can := can_obj (by omega) (by omega) (by omega) (by omega) (by omega) (by omega)
      rw [ho, encW_yes hcan]
      have := word_range hcan
      omega
    · rw [List.eq_of_mem_replicate hv]; decide
  · exact h
theorem makeW_length {ws : List Int} {l : List Ty} {g i n : Int} (hl : l.length ≤ 64) : (makeW ws l g i n).length = ws.length := by
  unfold makeW
  split
  · rename_i hm
    unfold makeE at hm
    by_cases c : sizeE l i n = 0
    · rw [if_neg (by simpa using c)] at hm
      obtain ⟨sz, ho, s1, s2, i2, i3, n1, n2⟩ := of_facts c hl
      cases hi : inG ws.length g (ofL l i n).sz
      · rw [hi] at hm; simp at hm
      · obtain ⟨h0, h1⟩ := (inG_iff _ _ _).1 hi
        rw [ho] at h1 ⊢
        simp only at h1
        unfold layG
        refine putW_length _ _ _ ?_
        simp only [List.length_cons, List.length_replicate]
        omega
    · rw [if_pos c] at hm; exact absurd hm c
  · rfl
end Go.Proofs.YtagmmbkgjomdlaaGreatDoor.Sh
